import Derived.Test.YtaaagmgglolibaaGreatFeSpecZz
import Derived.Test.YtaaagmgglolibaaGreatJRwZz
import Derived.Test.YtaaagmgglolibaaGreatMMarkZz
import Derived.Test.YtaaagmgglolibaaGreatMRowZz
import Derived.Test.YtaaagmgglolibaaGreatBMarkZz
import Derived.Test.YtaaagmgglolibaaGreatFeIsZz
import Derived.Test.YtaaagmgglolibaaGreatFeBmZz
import Derived.Test.YtaaagmgglolibaaGreatLastZz
import Derived.Test.YtaaagmgglolibaaGreatFeWalkZz
import Derived.Test.YtaaagmgglolibaaGreatFePutZz
import Derived.Test.YtaaagmgglolibaaGreatMathZz
import Derived.Test.YtaaagmgglolibaaGreatHOtZz
import Derived.Test.YtaaagmgglolibaaGreatGKeepZz
import Derived.Test.YtaaagmgglolibaaGreatMDrawZz
import Derived.Test.YtaaagmgglolibaaGreatMHighZz
import Derived.BigQuiet
set_option maxRecDepth 100000
set_option maxHeartbeats 8000000
namespace Go.Proofs.YtaaagmgglolibaaGreat
open Go Go.RowKit
theorem Zgu{w:World}{q i:Nat}{v:Value}{a:Addr}(h:a.block≠q):(w.setCell ⟨q,i,none⟩ v).cell? a=w.cell? a:=World.cell?_of_block (Below.heap_setCell w ⟨q,i,none⟩ v a.block h)
theorem Z6{w:World}{q:Nat}{u v:Value}{t:TypeId}(h:w.heap[q]? =some (.cells #[u,v] t)):w.cell? ⟨q,0,none⟩=some u/\w.cell? ⟨q,1,none⟩=some v/\(∀j,w.frozen? ⟨q,j,none⟩=false)/\q<w.heap.size:=by
 refine⟨by simp [World.cell?,h],by simp [World.cell?,h],fun j=>by simp [World.frozen?,h],?_⟩
 rcases Nat.lt_or_ge q w.heap.size with e | e
 · exact e
 · rw [Array.getElem?_eq_none e] at h;cases h
theorem Zjk{w:World}{q:Nat}{u v x:Value}{t:TypeId}(h:w.heap[q]? =some (.cells #[u,v] t)):(w.setCell ⟨q,0,none⟩ x).heap[q]? =some (.cells #[x,v] t)/\(w.setCell ⟨q,1,none⟩ x).heap[q]? =some (.cells #[u,x] t):=by
 constructor <;> simp [World.setCell,Array.getElem?_modify,h]
def Zah:List Mk->Nat
 | []=>0
 | m::l=>1+m.2.length+Zah l
def mkM:Int->List Mk->List Mk
 | _,[]=>[]
 | k,m::l=>(k,ZaU (fun i=>k+1+i) m.2.length)::mkM (k+1+m.2.length) l
theorem Zdp(k:Int)(ms:List Mk):(mkM k ms).length=ms.length:=by
 induction ms generalizing k with
 | nil=>rfl
 | cons m l ih=>simp [mkM,ih]
theorem Zk7(k:Int)(ms:List Mk)(j:Nat)(h:j<ms.length):ZH (mkM k ms) j=(k+Zah (ms.take j),ZaU (fun i=>k+Zah (ms.take j)+1+i) (ZH ms j).2.length):=by
 induction ms generalizing k j with
 | nil=>simp at h
 | cons m l ih=>
   cases j with
   | zero=>simp [mkM,ZH,Zah]
   | succ j=>
     have h':j<l.length:=by simpa using h
     have e:=ih (k+1+m.2.length) j h'
     show ZH (mkM (k+1+m.2.length) l) j=_
     rw [e]
     have e2:k+1+(m.2.length:Int)+(Zah (l.take j):Int)=k+(Zah ((m::l).take (j+1)):Int):=by
      simp only [List.take_succ_cons,Zah];omega
     rw [e2]
     rfl
theorem ZfW(ms:List Mk)(j:Nat)(h:j<ms.length):Zah (ms.take (j+1))=Zah (ms.take j)+1+(ZH ms j).2.length:=by
 induction ms generalizing j with
 | nil=>simp at h
 | cons m l ih=>
   cases j with
   | zero=>simp [Zah,ZH]
   | succ j=>
     have h':j<l.length:=by simpa using h
     have e:=ih j h'
     simp only [List.take_succ_cons,Zah]
     rw [e]
     show _=_+(ZH l j).2.length
     omega
theorem Zc5(ms:List Mk)(n m:Nat)(h1:ms.length<=n)(h:∀x∈ms,x.2.length<=m):Zah ms<=n*(m+1):=by
 induction ms generalizing n with
 | nil=>simp [Zah]
 | cons a l ih=>
   cases n with
   | zero=>simp at h1
   | succ n=>
     have e:=ih n (by simpa using h1) (fun x hx=>h x (List.mem_cons_of_mem _ hx))
     have e2:=h a (List.mem_cons_self)
     simp only [Zah]
     have e3:(n+1)*(m+1)=n*(m+1)+(m+1):=Nat.succ_mul n (m+1)
     omega
theorem ZnY(ao:Option Addr)(cap:Nat)(ms:List Mk)(k0:Int)(w:World)(hv:Zq w ao (mkM k0 ms))(hn:ms.length<=60)(hat:∀x∈ms,x.2.length<=4)(h0:1<=k0)(h1:k0<=1000000):
 Calls Tryz.prog 171 #[.slice ao ms.length cap,.int .i64 k0] w fun e w'=>e=.returned (.int .i64 (k0+Zah ms))/\w'=w:=by
 have HM:=Za hv
 have HAT:=Za hat
 clear hv hat
 go_enter Tryz.func171,Tryz.ntmps171
 go_wp2_with fail
 go_loop [1,5] (fun kk i=>∃j:Nat,j<=ms.length/\i=.int .i64 j/\kk=.int .i64 (k0+Zah (ms.take j))) (fun _ i=>ms.length-(intOf i).toNat)
 case atStart=>exact⟨0,Nat.zero_le _,rfl,by simp [Zah]⟩
 case round=>
  obtain⟨j,hj,rfl,rfl⟩:=hrel
  by_cases hlt:j<ms.length
  · obtain⟨b,off,rfl,hb,hs⟩:=ZbX HM.out (by rw [Zdp];omega)
    have hm:=hs j (by rw [Zdp];exact hlt)
    rw [Zk7 k0 ms j hlt] at hm
    obtain⟨c0,a,c,c1,va⟩:=hm
    simp only [ZE] at c1
    have hl4:(ZH ms j).2.length<=4:=by
     have:ZH ms j=ms[j]:=by simp [ZH,List.getD,hlt]
     rw [this];exact HAT.out _ (List.getElem_mem hlt)
    have ht1:=Zc5 (ms.take j) 60 4 (by simp;omega) (fun x hx=>HAT.out x (List.mem_of_mem_take hx))
    have HTK:=Za (ZfW ms j hlt)
    have HH:=Za (ZnB a c (ZH ms j).2.length (k0+Zah (ms.take j)+1) w va (by omega) (by omega) (by omega))
    have hi0:(0:Int)<=(j:Int):=Int.natCast_nonneg _
    have hi1:(j:Int)<(ms.length:Int):=by omega
    clear va hs
    generalize (ZH ms j).2.length=m at *
    have hneg:¬(k0+(Zah (ms.take j):Int)+1+(m:Int)<0):=by omega
    generalize hT:Zah (ms.take j)=T at *
    have hne:((k0+(T:Int)) !=(k0+(T:Int)))=false:=by simp
    have HT:=Za hT
    clear hT
    go_wp2_with fail
    refine HH.out.mono ?_
    rintro e w2 ⟨rfl,rfl⟩
    go_wp2_with fail
    go_round
    case rel=>exact⟨j+1,by omega,by go_num,by rw [HTK.out];congr 1;omega⟩
    case measure=>simp [intOf];omega
  · obtain rfl:j=ms.length:=by omega
    go_wp2_with fail
    go_ret
    exact⟨rfl,rfl⟩
theorem Zim(ds:List Dm)(j:Nat)(h:j<ds.length)(id:Int)(xs:List Int)(hl:xs.length=(Zk ds j).2.2.2.length):
 Zu (ds.set j (id,(Zk ds j).2.1,(Zk ds j).2.2.1,xs))=(Zu ds).set (j*2) (.int .i64 id):=by
 induction ds generalizing j with
 | nil=>simp at h
 | cons d ds ih=>
   cases j with
   | zero=>
     have e:Zk (d::ds) 0=d:=rfl
     rw [e] at hl ⊢
     simp [Zu,hl]
   | succ j=>
     have h':j<ds.length:=by simpa using h
     have e:=ih j h' hl
     rw [show (j+1)*2=j*2+1+1 by omega]
     show Zu (d::ds.set j _)=_
     simp only [Zu,List.set_cons_succ]
     first
      | (rw [<-e];rfl)
      | (simp only [List.cons_append,List.nil_append,List.set_cons_succ];rw [<-e];rfl)
theorem Zbx(ds:List Dm)(j:Nat)(h:j<ds.length)(d:Dm)(i:Nat):Zk (ds.set j d) i=if i=j then d else Zk ds i:=by
 by_cases e:i=j
 · subst e;simp [Zk,List.getD,h]
 · simp [Zk,List.getD,e,List.getElem?_set_ne (fun e'=>e e'.symm)]
structure ZbP(base:Nat)(w:World)(g c:Nat)(ds:List Dm):Prop where
 row:w.ownsRow base 29 2 (.slice (some ⟨g,0,none⟩) ds.length c) ds.length (Zu ds)
 rows:∀i,i<ds.length->ZF base w (Zk ds i).2.1 (Zk ds i).2.2.1 (Zk ds i).2.2.2
 off:∀i,i<ds.length->(Zk ds i).2.1≠g
 apart:∀i j,i<ds.length->j<ds.length->i≠j->(Zk ds i).2.1≠(Zk ds j).2.1
theorem ZbP.lt{base:Nat}{w:World}{g c:Nat}{ds:List Dm}(h:ZbP base w g c ds):base<=g/\g<w.heap.size:=World.ownsRow.lt h.row g rfl
theorem ZbP.cells{base:Nat}{w:World}{g c:Nat}{ds:List Dm}(h:ZbP base w g c ds)(i:Nat)(hi:i<ds.length):
 w.cell? ⟨g,i*2,none⟩=some (.int .i64 (Zk ds i).1)/\w.cell? ⟨g,i*2+1,none⟩=some (.slice (some ⟨(Zk ds i).2.1,0,none⟩) (Zk ds i).2.2.2.length (Zk ds i).2.2.1):=by
 have:=ZbY ds i hi
 rw [World.ownsRow.cellAt h.row _ (by omega),World.ownsRow.cellAt h.row _ (by omega)]
 exact this
theorem ZbP.view{base:Nat}{w:World}{g c:Nat}{ds:List Dm}(h:ZbP base w g c ds):Zq w (some ⟨g,0,none⟩) (Zj ds):=
 Or.inr ⟨g,0,rfl,h.lt.2,fun i hi=>by
  rw [Zp] at hi
  rw [Nat.zero_add,ZaS ds i hi]
  exact⟨(h.cells i hi).1,_,_,(h.cells i hi).2,(h.rows i hi).view⟩⟩
theorem ZbP.over{base:Nat}{w w2:World}{g c:Nat}{ds:List Dm}(h:ZbP base w g c ds)(j:Nat)(hj:j<ds.length)(id:Int)(xs:List Int)(hl:xs.length=(Zk ds j).2.2.2.length)
 (hg:(w.setCell ⟨g,j*2,none⟩ (.int .i64 id)).grownBy w2 (some (Zk ds j).2.1)) (hr:ZF base w2 (Zk ds j).2.1 (Zk ds j).2.2.1 xs):ZbP base w2 g c (ds.set j (id,(Zk ds j).2.1,(Zk ds j).2.2.1,xs)):=by
 have hoj:=h.off j hj
 have r1:=(World.ownsRow.stored h.row (j*2) (.int .i64 id)).1
 have hne:∀i,i<ds.length->i≠j->(w2.heap[(Zk ds i).2.1]? =w.heap[(Zk ds i).2.1]?):=fun i hi e=>by
  have h1:=(h.rows i hi).lt
  refine (hg.block _ (by rw [Zb];exact h1.2) (fun e'=>?_)).trans (Below.heap_setCell w ⟨g,j*2,none⟩ _ _ (fun e'=>h.off i hi e'))
  injection e' with e'
  exact h.apart i j hi hj e e'
 refine⟨?_,fun i hi=>?_,fun i hi=>?_,fun i k hi hk e=>?_⟩
 · rw [List.length_set,Zim ds j hj id xs hl]
   exact World.ownsRow.kept r1 hg (Or.inr (by simp [Value.ownBlock];exact fun e=>hoj e.symm))
 · rw [List.length_set] at hi
   rw [Zbx ds j hj]
   by_cases e:i=j
   · rw [if_pos e];exact hr
   · rw [if_neg e];exact (h.rows i hi).same (hne i hi e)
 · rw [List.length_set] at hi
   rw [Zbx ds j hj]
   by_cases e:i=j
   · rw [if_pos e];exact hoj
   · rw [if_neg e];exact h.off i hi
 · rw [List.length_set] at hi hk
   rw [Zbx ds j hj,Zbx ds j hj]
   by_cases e1:i=j
   · rw [if_pos e1,if_neg (by omega)];exact h.apart j k hj hk (by omega)
   · rw [if_neg e1]
     by_cases e2:k=j
     · rw [if_pos e2];exact h.apart i j hi hj e1
     · rw [if_neg e2];exact h.apart i k hi hk e
structure Zha(g:Nat)(ds:List Dm)(w w':World):Prop where
 os:w'.os=w.os
 tape:w'.tape=w.tape
 output:w'.output=w.output
 size:w.heap.size<=w'.heap.size
 block:∀b,b<w.heap.size->b≠g->(∀i,i<ds.length->b≠(Zk ds i).2.1)->w'.heap[b]? =w.heap[b]?
theorem Zha.refl(g:Nat)(ds:List Dm)(w:World):Zha g ds w w:=⟨rfl,rfl,rfl,Nat.le_refl _,fun _ _ _ _=>rfl⟩
theorem Zha.step{g:Nat}{ds:List Dm}{w w1 w2:World}(h:Zha g ds w w1)(k j:Nat)(v:Value)(hj:j<ds.length)(hg:(w1.setCell ⟨g,k,none⟩ v).grownBy w2 (some (Zk ds j).2.1)):Zha g ds w w2:=
 ⟨hg.os.trans h.os,hg.tape.trans h.tape,hg.output.trans h.output,Nat.le_trans h.size (by have:=hg.size;rw [Zb] at this;exact this),fun b hb h1 h2=>by
  refine (hg.block b (by rw [Zb];exact Nat.lt_of_lt_of_le hb h.size) (fun e=>?_)).trans ((Below.heap_setCell w1 ⟨g,k,none⟩ _ b (fun e=>h1 e)).trans (h.block b hb h1 h2))
  injection e with e
  exact h2 j hj e⟩
structure MkTo(base g c:Nat)(ds:List Dm)(k0:Int)(w wr:World)(j:Nat)(es:List Dm):Prop where
 own:ZbP base wr g c es
 len:es.length=ds.length
 done:∀i,i<j->ZH (Zj es) i=ZH (mkM k0 (Zj ds)) i
 rest:∀i,j<=i->Zk es i=Zk ds i
 blk:∀i,i<ds.length->(Zk es i).2.1=(Zk ds i).2.1
 chg:Zha g ds w wr
theorem Zk8{a b:List Mk}(hl:a.length=b.length)(h:∀i,i<a.length->ZH a i=ZH b i):a=b:=by
 refine List.ext_getElem hl (fun i h1 h2=>?_)
 have e:=h i h1
 simpa [ZH,List.getD,h1,h2] using e
theorem ZnZ(base g c:Nat)(ds:List Dm)(k0:Int)(w:World)(hm:ZbP base w g c ds)(hn:ds.length<=60)(hat:∀x∈Zj ds,x.2.length<=4)(h0:1<=k0)(h1:k0<=1000000):
 Calls Tryz.prog 170 #[.slice (some ⟨g,0,none⟩) ds.length c,.int .i64 k0] w fun e w'=>e=.returned (.int .i64 (k0+Zah (Zj ds)))/\(∃es,ZbP base w' g c es/\es.length=ds.length/\Zj es=mkM k0 (Zj ds)/\∀i,i<ds.length->(Zk es i).2.1=(Zk ds i).2.1)/\Zha g ds w w':=by
 have HAT:=Za hat
 have HM:=Za hm
 clear hat hm
 go_enter Tryz.func170,Tryz.ntmps170
 go_wp2_with fail
 go_loopw [1,5] (fun kk i wr=>∃(j:Nat) (es:List Dm),j<=ds.length/\i=.int .i64 j/\kk=.int .i64 (k0+Zah ((Zj ds).take j))/\MkTo base g c ds k0 w wr j es) (fun _ i _=>ds.length-(intOf i).toNat)
 case atStart=>exact⟨0,ds,Nat.zero_le _,rfl,by simp [Zah],⟨HM.out,rfl,fun i hi=>absurd hi (by omega),fun i _=>rfl,fun i _=>rfl,Zha.refl _ _ _⟩⟩
 case round=>
  obtain⟨j,es,hj,rfl,rfl,I⟩:=hrel
  by_cases hlt:j<ds.length
  · have hje:j<es.length:=by rw [I.len];exact hlt
    have hjm:j<(Zj ds).length:=by rw [Zp];exact hlt
    obtain⟨c0,c1⟩:=I.own.cells j hje
    have f0:wr.frozen? ⟨g,j*2,none⟩=false:=World.ownsRow.frozenAt I.own.row (j*2)
    have hd:=I.rest j (Nat.le_refl _)
    have hl4:(ZH (Zj ds) j).2.length<=4:=by
     have:ZH (Zj ds) j=(Zj ds)[j]:=by simp [ZH,List.getD,hjm]
     rw [this];exact HAT.out _ (List.getElem_mem hjm)
    have ht1:=Zc5 ((Zj ds).take j) 60 4 (by rw [List.length_take,Zp];omega) (fun x hx=>HAT.out x (List.mem_of_mem_take hx))
    have HTK:=Za (ZfW (Zj ds) j hjm)
    have HAJ:=Za (Zk7 k0 (Zj ds) j hjm)
    have HDM:=Za (ZaS ds j hlt)
    have HI:=Za I
    have hlen:(Zk es j).2.2.2.length=(ZH (Zj ds) j).2.length:=by rw [hd,ZaS ds j hlt]
    rw [hlen] at c1
    have HLN:=Za hlen
    have HH:Hid (Calls Tryz.prog 79 #[.slice (some ⟨(Zk es j).2.1,0,none⟩) (ZH (Zj ds) j).2.length (Zk es j).2.2.1,.int .i64 (k0+Zah ((Zj ds).take j)+1)] (wr.setCell ⟨g,j*2,none⟩ (.int .i64 (k0+Zah ((Zj ds).take j)))) fun e w'=>e=.returned (.int .i64 (k0+Zah ((Zj ds).take j)+1+(ZH (Zj ds) j).2.length))/\ZF base w' (Zk es j).2.1 (Zk es j).2.2.1 (ZaU (fun i=>k0+Zah ((Zj ds).take j)+1+i) (ZH (Zj ds) j).2.length)/\(wr.setCell ⟨g,j*2,none⟩ (.int .i64 (k0+Zah ((Zj ds).take j)))).grownBy w' (some (Zk es j).2.1)):=by
     have:=ZnA base (Zk es j).2.1 (Zk es j).2.2.1 (k0+Zah ((Zj ds).take j)+1) (Zk es j).2.2.2 (wr.setCell ⟨g,j*2,none⟩ (.int .i64 (k0+Zah ((Zj ds).take j)))) ((I.own.rows j hje).same (Below.heap_setCell wr ⟨g,j*2,none⟩ _ _ (fun e=>I.own.off j hje e))) (by omega) (by omega) (by omega)
     rw [hlen] at this
     exact this
    have hi0:(0:Int)<=(j:Int):=Int.natCast_nonneg _
    have hi1:(j:Int)<(ds.length:Int):=by omega
    clear hd hlen I
    generalize hM:(ZH (Zj ds) j).2.length=m at *
    generalize hT:Zah ((Zj ds).take j)=T at *
    generalize hG:(Zk es j).2.1=gb at *
    generalize hC:(Zk es j).2.2.1=cb at *
    have HE:=Za (And.intro hM (And.intro hT (And.intro hG hC)))
    clear hM hT hG hC
    go_wp2_with fail
    refine HH.out.mono ?_
    rintro e w2 ⟨rfl,hr,hg⟩
    have HR:=Za (And.intro hr hg)
    clear hr hg
    go_wp2_with fail
    go_roundw
    case rel=>
     obtain⟨eM,eT,eG,eC⟩:=HE.out
     have I:=HI.out
     have hr:=HR.out.1
     have hg:=HR.out.2
     rw [<-eG] at hr hg
     rw [<-eC] at hr
     have hxl:(ZaU (fun i=>k0+(T:Int)+1+i) m).length=(Zk es j).2.2.2.length:=by rw [ZE,HLN.out]
     have hb:=I.blk j hlt
     refine⟨j+1,es.set j (k0+T,(Zk es j).2.1,(Zk es j).2.2.1,ZaU (fun i=>k0+(T:Int)+1+i) m),by omega,by go_num,by rw [HTK.out];congr 1;omega,?_⟩
     refine⟨I.own.over j hje _ _ hxl hg hr,by rw [List.length_set];exact I.len,fun i hi=>?_,fun i hi=>?_,fun i hi=>?_,I.chg.step _ j _ hlt (by rw [<-hb];exact hg)⟩
     · rw [ZaS _ _ (by rw [List.length_set];omega),Zbx es j hje]
       by_cases e:i=j
       · subst e
         rw [if_pos rfl,HAJ.out]
       · rw [if_neg e,<-ZaS _ _ (by omega)]
         exact I.done i (by omega)
     · rw [Zbx es j hje,if_neg (by omega)]
       exact I.rest i (by omega)
     · rw [Zbx es j hje]
       by_cases e:i=j
       · subst e;rw [if_pos rfl];exact hb
       · rw [if_neg e];exact I.blk i hi
    case measure=>simp [intOf];omega
  · obtain rfl:j=ds.length:=by omega
    go_wp2_with fail
    go_ret
    refine⟨ZK (by rw [<-Zp,List.take_length]),⟨es,I.own,I.len,Zk8 (by rw [Zp,Zdp,Zp];exact I.len) (fun i hi=>I.done i (by rw [Zp,I.len] at hi;exact hi)),I.blk⟩,I.chg⟩
abbrev Wb:=List Mk×List (List Int)
def Zl(ts:List Wb)(i:Nat):Wb:=ts.getD i ([],[])
def WbAt(s:Bool)(w:World)(b off:Nat)(t:Wb):Prop:=∃am cm al cl,w.cell? ⟨b,off,none⟩=some (.slice am t.1.length cm)/\w.cell? ⟨b,off+1,none⟩=some (.slice al t.2.length cl)/\Zq w am t.1/\Z8 w al t.2/\(s=true->t.1.length<=cm/\t.2.length<=cl)
def Zhb(s:Bool)(w:World)(b off:Nat)(ts:List Wb):Prop:=∀i,i<ts.length->WbAt s w b (off+i*2) (Zl ts i)
def Zz(s:Bool)(w:World)(ao:Option Addr)(ts:List Wb):Prop:=ts=[]\/∃b off,ao=some ⟨b,off,none⟩/\b<w.heap.size/\Zhb s w b off ts
def ZaB(ts:List Wb):Prop:=ts.length<=1048576/\∀i,ZX (Zl ts i).1/\ZaZ (Zl ts i).2
theorem WbAt.next{s:Bool}{w w':World}{b off:Nat}{t:Wb}(h:WbAt s w b off t)(hb:b<w.heap.size)(L:Below w.heap.size w w'):WbAt s w' b off t:=by
 obtain⟨am,cm,al,cl,h1,h2,h3,h4,h5⟩:=h
 exact⟨am,cm,al,cl,(L.cell (p:=⟨b,off,none⟩) hb).trans h1,(L.cell (p:=⟨b,off+1,none⟩) hb).trans h2,h3.next L,h4.next L,h5⟩
theorem Zhb.next{s:Bool}{w w':World}{b off:Nat}{ts:List Wb}(h:Zhb s w b off ts)(hb:b<w.heap.size)(L:Below w.heap.size w w'):Zhb s w' b off ts:=fun i hi=>(h i hi).next hb L
theorem Zz.next{s:Bool}{w w':World}{ao:Option Addr}{ts:List Wb}(h:Zz s w ao ts)(L:Below w.heap.size w w'):Zz s w' ao ts:=by
 rcases h with h | ⟨b,off,e,hb,hs⟩
 · exact Or.inl h
 · exact Or.inr ⟨b,off,e,Nat.lt_of_lt_of_le hb L.size,hs.next hb L⟩
theorem Zz.seg{s:Bool}{w:World}{ao:Option Addr}{ts:List Wb}(h:Zz s w ao ts)(h0:0<ts.length):∃b off,ao=some ⟨b,off,none⟩/\b<w.heap.size/\Zhb s w b off ts:=by
 rcases h with h | h
 · subst h;simp at h0
 · exact h
def tot(f:Nat->Nat):Nat->Nat
 | 0=>0
 | k+1=>tot f k+f k
def Zg2(ms:List Mk):Nat:=ms.length+tot (fun j=>(mat ms j).length) ms.length
def Zif(ls:List (List Int)):Nat:=ls.length+tot (fun j=>(cn ls j).length) ls.length
def wtot(t:Wb):Nat:=Zg2 t.1+Zif t.2
def ZkY(ts:List Wb):Nat:=ts.length+tot (fun j=>wtot (Zl ts j)) ts.length
theorem Tryz.info47:(Tryz.prog.info? 47).map (fun i=>(i.zero,i.size,i.bytes))=some (some (.agg #[.slice none 0 0,.slice none 0 0]),2,48):=by kernel_rfl
def Zin(f:Nat->Nat)(m v:Nat)(i:Nat):Nat:=if i=m then v else f i
def Zn0:Prop:=∀(am:Option Addr) (cm:Nat) (ms:List Mk) (al:Option Addr) (cl:Nat) (ls:List (List Int)) (w:World),Zq w am ms->Z8 w al ls->ZX ms->ZaZ ls->ms.length<=cm->ls.length<=cl->Calls Tryz.prog 112 #[.agg #[.slice am ms.length cm,.slice al ls.length cl]] w fun e w'=>e=.returned (.bool (Zab ms ls))/\Below w.heap.size w w'
def Zbv(base:Nat)(w:World)(v:Value)(rs:List Rw):Prop:=(v=.slice none 0 0/\rs=[])\/∃g c,v=.slice (some ⟨g,0,none⟩) rs.length c/\ZaP base w g c rs
theorem Zbv.owns{base:Nat}{w:World}{v:Value}{rs:List Rw}(h:Zbv base w v rs):w.ownsRow base 27 1 v rs.length (rs.map rwV):=by
 rcases h with ⟨rfl,rfl⟩ | ⟨g,c,rfl,h⟩
 · exact World.ownsRow_nil w base _ _
 · exact h.row
theorem Zbv.same{base:Nat}{w w':World}{v:Value}{rs:List Rw}(h:Zbv base w v rs)(e:∀i,base<=i->i<w.heap.size->w'.heap[i]? =w.heap[i]?):Zbv base w' v rs:=by
 rcases h with h | ⟨g,c,rfl,h⟩
 · exact Or.inl h
 · exact Or.inr ⟨g,c,rfl,h.same (fun i hi=>e i (h.all i hi).1 (h.all i hi).2)⟩
theorem Zbv.snoc{base:Nat}{w w8:World}{v:Value}{gg cc:Nat}{rs:List Rw}{r:Rw}(h:Zbv base w v rs)(hown:w8.ownsRow base 27 1 (.slice (some ⟨gg,0,none⟩) (rs.length+1) cc) (rs.length+1) (rs.map rwV++[rwV r]))
 (hgrow:w.grownBy w8 v.ownBlock) (hat:v.ownBlock=some gg\/gg=w.heap.size) (hr:ZF base w r.1 r.2.1 r.2.2) (hnew:∀i,base<=i->i<w.heap.size->(v.ownBlock=some i\/∃x∈rs,i=x.1)->i<r.1):ZaP base w8 gg cc (rs++[r]):=by
 have hrl:=hr.lt
 rcases h with ⟨rfl,rfl⟩ | ⟨g,c,rfl,h⟩
 · have hgg:gg=w.heap.size:=by
    rcases hat with e | e
    · cases e
    · exact e
   refine⟨?_,fun x hx=>?_,by simp,fun x hx=>?_⟩
   · simpa [Zdf] using hown
   · simp at hx;rw [hx]
     exact hr.kept hgrow (by simp [Value.ownBlock])
   · simp at hx;rw [hx];omega
 · have hgl:=h.row.lt
   refine h.snoc hown hgrow ?_ hr ?_ ?_
   · rcases hat with e | e
     · left;simpa [Value.ownBlock] using e
     · exact Or.inr e
   · have:=hnew g hgl.1 hgl.2 (Or.inl rfl);omega
   · intro x hx
     have hx2:=(h.rows x hx).lt
     have:=hnew x.1 hx2.1 hx2.2 (Or.inr ⟨x,hx,rfl⟩)
     omega
structure Zc6(B O:Nat)(w w':World):Prop where
 os:w'.os=w.os
 tape:w'.tape=w.tape
 output:w'.output=w.output
 size:w.heap.size<=w'.heap.size
 block:∀i,i<B->i≠O->w'.heap[i]? =w.heap[i]?
theorem Zc6.refl(B O:Nat)(w:World):Zc6 B O w w:=⟨rfl,rfl,rfl,Nat.le_refl _,fun _ _ _=>rfl⟩
theorem Zc7{w:World}{n:Nat}{r:Rw}(hb:w.heap[n]? =some (.cells #[rwV r] 27 (0,0))):(∀j u,[rwV r][j]? =some u->w.cell? ((⟨n,0,none⟩:Addr).add j)=some u)/\∀u∈[rwV r],u.oneCell'=true:=
 ⟨World.news_of_block (cs:=#[rwV r]) hb,by simp [rwV,Value.oneCell']⟩
theorem Zaa{base:Nat}{w w':World}{e:TypeId}{size g c n:Nat}{xs:List Value}(h:w.ownsRow base e size (.slice (some ⟨g,0,none⟩) n c) n xs)(hh:w'.heap[g]? =w.heap[g]?):w'.ownsRow base e size (.slice (some ⟨g,0,none⟩) n c) n xs:=by
 refine⟨h.1,?_⟩
 rcases h.2 with hn | ⟨g',cap,cur,e1,hb,hgg,rest⟩
 · exact .inl hn
 · refine .inr ⟨g',cap,cur,e1,hb,?_,rest⟩
   injection e1 with e2 e3 e4
   injection e2 with e5
   injection e5 with e6
   rw [<-e6,hh,e6]
   exact hgg
theorem Zew{base base':Nat}{w:World}{e:TypeId}{size n:Nat}{v:Value}{xs:List Value}(h:w.ownsRow base e size v n xs)(hb:base'<=base):w.ownsRow base' e size v n xs:=⟨h.1,h.2.imp id fun ⟨g',cap,cur,e,hg,r⟩=>⟨g',cap,cur,e,Nat.le_trans hb hg,r⟩⟩
theorem Zk9(am al:Option Addr)(cm cl:Nat)(ms:List Mk)(ls:List (List Int))(w:World)(hm:Zq w am ms)(hl:Z8 w al ls)(h60:ms.length<=60)(h4:∀i,(mat ms i).length<=4)(hl60:ls.length<=60)(hll:∀i,(cn ls i).length<=60):
 Calls Tryz.prog 245 #[.agg #[.slice am ms.length cm,.slice al ls.length cl]] w fun e w'=>∃gm c ds v rs B1,e=.returned (.agg #[.slice (some ⟨gm,0,none⟩) ms.length c,v])/\ZL w.heap.size w' gm c ds/\Zj ds=ms/\Zbv B1 w' v rs/\ZaJ rs=ls/\gm<B1/\(∀d∈ds,d.2.1<B1)/\w.heap.size<=B1/\B1<=w'.heap.size/\Below w.heap.size w w':=by
 obtain⟨i0,hi0,hx0,hx1,hx2⟩:=info_parts Tryz.info2
 obtain⟨j0,hj0,hy0,hy1,hy2⟩:=info_parts Tryz.infoL
 obtain⟨W,hW⟩:∃W,w.alloc (.cells #[.slice am ms.length cm,.slice al ls.length cl] 47)=W:=⟨_,rfl⟩
 obtain⟨W2,hW2⟩:∃W2,W.alloc (.cells #[.slice none 0 0,.slice none 0 0] 47)=W2:=⟨_,rfl⟩
 have hB:Below w.heap.size w W:=by rw [<-hW];exact (Below.refl _ _).alloc (Nat.le_refl _) _
 have hB2:Below W.heap.size W W2:=by rw [<-hW2];exact (Below.refl _ _).alloc (Nat.le_refl _) _
 have s1:W.heap.size=w.heap.size+1:=by rw [<-hW];simp
 have s2:W2.heap.size=w.heap.size+1+1:=by rw [<-hW2];simp [s1]
 have hI0:Zac W w.heap.size am cm ms al cl ls:=by rw [<-hW];exact Zac.box hm hl
 have hI:=hI0.below hB2
 have t1:W2.heap[w.heap.size+1]? =some (.cells #[.slice none 0 0,.slice none 0 0] 47):=by rw [<-hW2,<-s1];exact heap_alloc_new W _
 have HI:=Za hI
 have HB:=Za (Zd hB hB2)
 have HT:=Za t1
 have k0:=hI.c0
 have HC:=Za (Zla am cm ms W2 hI.mv h60 h4)
 have HLL:=Za hll
 have HCV:=Za hl
 clear hm hl hB hB2 hI hI0 t1 h4 hll
 go_enter Tryz.func245,Tryz.ntmps245
 go_wp2_with fail
 refine HC.out.mono ?_
 rintro e w3 ⟨gm,c,ds,rfl,hrow,hdm,L3⟩
 obtain⟨w4,hw4⟩:∃w4,w3.alloc (.cells #[.slice (some ⟨gm,0,none⟩) ms.length c,.slice none 0 0] 47)=w4:=⟨_,rfl⟩
 have L4:Below w3.heap.size w3 w4:=by rw [<-hw4];exact (Below.refl _ _).alloc (Nat.le_refl _) _
 have s4:w4.heap.size=w3.heap.size+1:=by rw [<-hw4];simp
 have z3:=L3.size
 have HO4:Hid (w4.heap[w3.heap.size]? =some (.cells #[.slice (some ⟨gm,0,none⟩) ms.length c,.slice none 0 0] 47)):=by show _=_;rw [<-hw4];exact heap_alloc_new w3 _
 have HD4:=Za (hrow.kept (r:=none) ⟨L4.os,L4.tape,L4.output,L4.size,fun i hi _=>L4.block i hi⟩ (by simp))
 have HDB:Hid (gm<w3.heap.size/\∀d∈ds,d.2.1<w3.heap.size):=⟨hrow.lt.2,fun d hd=>(hrow.2.1 d hd).1.lt2.2⟩
 have HDM:=Za hdm
 have HI4:=Za (HI.out.below (Zd L3 L4))
 have HT4:=Za ((L4.block _ (by omega)).trans ((L3.block _ (by omega)).trans HT.out))
 have HB4:=Za (Zd (Zd HB.out L3) L4)
 have c1:=HI4.out.c1
 have HW4:=Za hw4
 clear hrow hdm L3 L4 HC HI HT hW hW2 k0 hw4
 go_wp2_with fail
 rw [HW4.out]
 obtain⟨O,hO⟩:∃O,w3.heap.size=O:=⟨_,rfl⟩
 rw [hO] at HO4 HDB s4 z3
 rw [hO]
 have HOO:=Za hO
 clear hO HW4
 have HLB:Hid (∀wr,Zc6 (O+1) O w4 wr->Below w.heap.size w wr):=fun wr K=>⟨K.os.trans HB4.out.os,K.tape.trans HB4.out.tape,K.output.trans HB4.out.output,Nat.le_trans HB4.out.size K.size,fun i hi=>(K.block i (by omega) (by omega)).trans (HB4.out.block i hi)⟩
 go_loopw [4] (fun vi wr=>∃(i:Nat) (v:Value) (rs:List Rw),i<=ls.length/\vi=.int .i64 i/\wr.heap[O]? =some (.cells #[.slice (some ⟨gm,0,none⟩) ms.length c,v] 47)/\Zbv (O+1) wr v rs/\rs.length=i/\ZaJ rs=ls.take i/\Zc6 (O+1) O w4 wr) (fun vi _=>ls.length-(intOf vi).toNat)
 case atStart=>exact⟨0,.slice none 0 0,[],Nat.zero_le _,rfl,HO4.out,Or.inl ⟨rfl,rfl⟩,rfl,rfl,Zc6.refl _ _ _⟩
 case round=>
  clear HO4
  obtain⟨i,v,rs,hi,rfl,hO',hlm,hrl,hnu,K⟩:=hrel
  obtain⟨o0,o1,of,oO⟩:=Z6 hO'
  have LB:=HLB.out wr K
  have hzk:=K.size
  have c1:wr.cell? ⟨w.heap.size,1,none⟩=some (.slice al ls.length cl):=(World.cell?_of_block (K.block w.heap.size (by omega) (by omega))).trans HI4.out.c1
  have HO5:=Za hO'
  have HLM:=Za hlm
  have HNU:=Za hnu
  have HRL:=Za hrl
  have HK:=Za K
  have HLW:=Za LB
  by_cases hlt:i<ls.length
  · obtain⟨bl,ol,rfl,hbl,hcs⟩:=(HCV.out.next LB).seg (by omega)
    have hblw:bl<w.heap.size:=by
     obtain⟨b',o',e',hb',-⟩:=HCV.out.seg (by omega)
     injection e' with e'
     injection e' with e1 e2
     omega
    obtain⟨ai,ci,hci,hvi⟩:=hcs i hlt
    have hlci:=HLL.out i
    have HVI:=Za hvi
    have hi0':(0:Int)<=(i:Int):=Int.natCast_nonneg _
    have hi1':(i:Int)<(ls.length:Int):=by omega
    have HS0:Hid (∀W':World,(∀j,j<O+1->W'.heap[j]? =wr.heap[j]?)->W'.cell? ⟨O,1,none⟩=some v/\W'.cell? ⟨w.heap.size,1,none⟩=some (.slice (some ⟨bl,ol,none⟩) ls.length cl)/\W'.cell? ⟨bl,ol+i,none⟩=some (.slice ai (cn ls i).length ci)):=fun W' h=>⟨(World.cell?_of_block (h O (by omega))).trans o1,(World.cell?_of_block (h w.heap.size (by omega))).trans c1,(World.cell?_of_block (h bl (by omega))).trans hci⟩
    have HTK:Hid (∀g6 c6,ZaJ (rs++[(g6,c6,cn ls i)])=ls.take (i+1)):=fun g6 c6=>by
     show _=_
     rw [ZaJ,List.map_append,<-ZaJ,HNU.out,List.take_add_one]
     congr 1
     simp [cn,List.getD,hlt]
    clear hlm hnu hrl K LB hcs hvi hO'
    go_wp2_with fail
    refine ZR (S:=fun W'=>W'.cell? ⟨O,1,none⟩=some v/\W'.cell? ⟨w.heap.size,1,none⟩=some (.slice (some ⟨bl,ol,none⟩) ls.length cl)/\W'.cell? ⟨bl,ol+i,none⟩=some (.slice ai (cn ls i).length ci)) (fuel:=5)
     [0,1,3,4,5,6,7] _ rfl (by kernel_rfl) (by kernel_rfl) (by kernel_rfl) (by kernel_rfl) (by kernel_rfl) (by kernel_rfl) (by kernel_rfl) (HS0.out _ (fun j _=>rfl)) (fun _=>?_)
    iterate 7 (refine⟨_,rfl,?_⟩;apply Exists.intro;refine⟨Or.inl ⟨by rfl,fun w' hw'=>?_⟩,?_⟩;(focus (obtain⟨e1,e2,e3⟩:=hw';first | (go_simp;done) | (go_simp;with_reducible rfl)));simp only [Act.put,List.setIfInBounds_toArray])
    refine Zc 2 (by kernel_rfl) rfl (fun K hK=>?_)
    go_simp
    obtain⟨w5,hw5⟩:∃w5,(wr.alloc (.cells #[] 2)).drew=w5:=⟨_,rfl⟩
    have HL5:Hid (Below wr.heap.size wr w5):=by show Below _ _ _;rw [<-hw5];exact ((Below.refl wr.heap.size wr).alloc (Nat.le_refl _) _).drew
    have HR5:Hid (Row (O+1) w5 wr.heap.size 0 []):=by show Row _ _ _ _ _;rw [<-hw5];exact Row.start wr (O+1) (by omega)
    have hs5:w5.heap.size=wr.heap.size+1:=by rw [<-hw5];simp
    rw [hw5]
    clear hw5
    refine hK.out _ _ (HS0.out _ (fun j hj=>HL5.out.block j (by omega))) (fun _=>?_)
    clear hK K
    refine Zc 8 (by kernel_rfl) rfl (fun K hK=>?_)
    refine Zi w5 rfl (.tmp 18) (.tmp 23) 27 rfl (O+1) 2 i0 _ 1 8 Tryz.underlying27 hi0 hx0 hx1 hx2 rfl (by omega) wr.heap.size 0 0 [] rfl HR5.out ai (cn ls i).length ci ((cn ls i).map (Value.int .i64)) rfl (ZY (Zs.next HVI.out HL5.out)) (by unfold maxLen;omega) (by omega) (by omega) w5.heap.size rfl ?_
    intro g6 c6 w6 hown6 hgrow6 hat6 hlt6
    have HR6:Hid (Row (O+1) w6 g6 c6 (cn ls i)):=Zbm hown6 rfl
    have hz6:=hgrow6.size
    have HL6:Hid (Below wr.heap.size wr w6):=HL5.out.grown hgrow6 (by omega) (by intro q hq;cases hq;omega)
    have hg6b:wr.heap.size<=g6:=by rcases hat6 with e | e <;> omega
    clear hown6 hgrow6
    refine hK.out _ _ (HS0.out _ (fun j hj=>HL6.out.block j (by omega))) (fun _=>?_)
    clear hK K
    refine Zc 9 (by kernel_rfl) rfl (fun K hK=>?_)
    go_simp
    obtain⟨w7,hw7⟩:∃w7,w6.alloc (.cells #[.slice (some ⟨g6,0,none⟩) (cn ls i).length c6] 27)=w7:=⟨_,rfl⟩
    have HN7:Hid (w7.heap[w6.heap.size]? =some (.cells #[rwV (g6,c6,cn ls i)] 27 (0,0))):=by show _=_;rw [<-hw7];exact heap_alloc_new w6 _
    have L67:Below w6.heap.size w6 w7:=by rw [<-hw7];exact (Below.refl _ _).alloc (Nat.le_refl _) _
    have hs7:w7.heap.size=w6.heap.size+1:=by rw [<-hw7];simp
    have HL7:=Za (Zd HL6.out L67)
    have HR7:=Za (HR6.out.next L67 HR6.out.lt2.2)
    have HM7:=Za (HLM.out.same (w':=w7) (fun j _ hj=>HL7.out.block j hj))
    try rw [Nat.zero_add]
    try rw [hw7]
    clear hw7 L67
    refine hK.out _ _ (HS0.out _ (fun j hj=>HL7.out.block j (by omega))) (fun _=>?_)
    clear hK K
    refine Zc 10 (by kernel_rfl) rfl (fun K hK=>?_)
    refine step_append_lies w7 rfl (.tmp 17) (.tmp 25) 45 rfl (O+1) 27 j0 _ 1 24 Tryz.underlying45 hj0 hy0 hy1 hy2 rfl (by omega) v rs.length (rs.map rwV) rfl HM7.out.owns ⟨w6.heap.size,0,none⟩ 1 1 [rwV (g6,c6,cn ls i)] rfl rfl (Zc7 HN7.out).1 (Zc7 HN7.out).2 (by omega) (by have:=HRL.out;unfold maxLen;omega) (by have:=HRL.out;omega) (by omega) w7.heap.size rfl ?_
    intro g8 c8 w8 hown8 hgrow8 hat8 hlt8
    have HM8:Hid (ZaP (O+1) w8 g8 c8 (rs++[(g6,c6,cn ls i)])):=HM7.out.snoc hown8 hgrow8 hat8 HR7.out (fun j h1 h2 h3=>by
     have:j<wr.heap.size:=by
      rcases HLM.out with ⟨hv0,hr0⟩ | ⟨g',c',hv0,hm0⟩
      · rcases h3 with e | ⟨x,hx,-⟩
        · rw [hv0] at e;cases e
        · rw [hr0] at hx;cases hx
      · rcases h3 with e | ⟨x,hx,rfl⟩
        · rw [hv0] at e
          have e':g'=j:=by simpa [Value.ownBlock] using e
          have:=hm0.row.lt
          omega
        · exact (hm0.rows x hx).lt.2
     show j<g6
     omega)
    have HK8:Hid (∀j,j<O+1->w8.heap[j]? =wr.heap[j]?):=fun j hj=>(hgrow8.block j (by omega) (fun e=>by
     rcases HM7.out with ⟨hv0,hr0⟩ | ⟨g',c',hv0,hm0⟩
     · rw [hv0] at e;cases e
     · rw [hv0] at e
       have e':j=g':=by simpa [Value.ownBlock] using e
       have:=hm0.row.lt
       omega)).trans (HL7.out.block j (by omega))
    have hz8:=hgrow8.size
    have HKK:Hid (w8.os=wr.os/\w8.tape=wr.tape/\w8.output=wr.output):=⟨hgrow8.os.trans HL7.out.os,hgrow8.tape.trans HL7.out.tape,hgrow8.output.trans HL7.out.output⟩
    clear hown8 hgrow8
    refine hK.out _ _ (HS0.out _ HK8.out) (fun _=>?_)
    clear hK K
    refine Zc 11 (by kernel_rfl) rfl (fun K hK=>?_)
    go_simp
    refine hK.out _ _ (HS0.out _ HK8.out) (fun _=>?_)
    clear hK K
    refine wpAnyH_done (by kernel_rfl) ?_ _
    simp only [Exit.then]
    have t8:=(HK8.out O (by omega)).trans HO5.out
    obtain⟨u0,u1,uf,uO⟩:=Z6 t8
    have uf1:=uf 1
    have HT9:=Za (Zjk (x:=.slice (some ⟨g8,0,none⟩) (rs.length+1) c8) t8).2
    have HM9:Hid (ZaP (O+1) (w8.setCell ⟨O,1,none⟩ (.slice (some ⟨g8,0,none⟩) (rs.length+1) c8)) g8 c8 (rs++[(g6,c6,cn ls i)])):=HM8.out.same (fun j hj=>Below.heap_setCell w8 ⟨O,1,none⟩ _ j (fun e=>by have h1:=(HM8.out.all j hj).1;have:j=O:=e;omega))
    have HK9:Hid (Zc6 (O+1) O w4 (w8.setCell ⟨O,1,none⟩ (.slice (some ⟨g8,0,none⟩) (rs.length+1) c8))):=⟨HKK.out.1.trans HK.out.os,HKK.out.2.1.trans HK.out.tape,HKK.out.2.2.trans HK.out.output,by simp [World.setCell];omega,fun j hj hne=>(Below.heap_setCell w8 ⟨O,1,none⟩ _ j (fun e=>hne e)).trans ((HK8.out j hj).trans (HK.out.block j hj hne))⟩
    clear HS0 HL5 HR5 HL6 HR6 HL7 HR7 HM7 HN7 HM8 HK8 HKK t8 u0 uf
    go_wp2_with fail
    refine NoPanic.normal ?_
    go_wp2_with fail
    go_roundw
    case rel=>exact⟨i+1,.slice (some ⟨g8,0,none⟩) (rs.length+1) c8,rs++[(g6,c6,cn ls i)],by omega,by go_num,HT9.out,Or.inr ⟨g8,c8,by simp,HM9.out⟩,by have:=HRL.out;simp;omega,HTK.out g6 c6,HK9.out⟩
    case measure=>simp [intOf];omega
  · obtain rfl:i=ls.length:=by omega
    have hnl:ZaJ rs=ls:=by rw [HNU.out,List.take_length]
    have p1:=(K.block (w.heap.size+1) (by omega) (by omega)).trans HT4.out
    obtain⟨q0,q1,qf,-⟩:=Z6 p1
    have qf0:=qf 0
    have qf1:=qf 1
    have HDW:Hid (ZL w.heap.size wr gm c ds):=by
     have h:=HD4.out
     have hdb:=HDB.out
     refine⟨?_,fun d hd=>⟨?_,(h.2.1 d hd).2⟩,h.2.2⟩
     · exact Zew (Zaa h.1 (K.block gm (by omega) (by omega))) (by omega)
     · have h2:=(h.2.1 d hd).1
       have:=hdb.2 d hd
       exact (h2.same (K.block d.2.1 (by omega) (by omega))).mono14 (by omega)
    have HF:Hid (∀(u:Value) (w':World),Zbv (O+1) wr u rs->w'=(wr.setCell ⟨w.heap.size+1,0,none⟩ (.slice (some ⟨gm,0,none⟩) ms.length c)).setCell ⟨w.heap.size+1,1,none⟩ u->∃gm' c' ds' v' rs' B1,Ending.returned (.agg #[.slice (some ⟨gm,0,none⟩) ms.length c,u])=Ending.returned (.agg #[.slice (some ⟨gm',0,none⟩) ms.length c',v'])/\ZL w.heap.size w' gm' c' ds'/\Zj ds'=ms/\Zbv B1 w' v' rs'/\ZaJ rs'=ls/\gm'<B1/\(∀d∈ds',d.2.1<B1)/\w.heap.size<=B1/\B1<=w'.heap.size/\Below w.heap.size w w'):=fun u w' hu e=>by
     have hfar:∀j,j≠w.heap.size+1->w'.heap[j]? =wr.heap[j]? :=fun j hj=>by
      rw [e,Below.heap_setCell _ ⟨w.heap.size+1,1,none⟩ _ j (fun e=>hj e),Below.heap_setCell _ ⟨w.heap.size+1,0,none⟩ _ j (fun e=>hj e)]
     have hsz:w'.heap.size=wr.heap.size:=by rw [e];simp [World.setCell]
     have hdb:=HDB.out
     have hg2:=HD4.out.lt.1
     refine⟨gm,c,ds,u,rs,O+1,rfl,?_,HDM.out,hu.same (fun j h1 _=>hfar j (by omega)),hnl,by omega,fun d hd=>by have:=hdb.2 d hd;omega,by omega,by omega,?_⟩
     · refine⟨Zaa HDW.out.1 (hfar gm (by omega)),fun d hd=>⟨?_,(HDW.out.2.1 d hd).2⟩,HDW.out.2.2⟩
       have h3:=(HD4.out.2.1 d hd).1.lt2.1
       exact (HDW.out.2.1 d hd).1.same (hfar d.2.1 (by omega))
     · rw [e]
       exact (HLW.out.setCell (by show w.heap.size<=w.heap.size+1;omega) _).setCell (by show w.heap.size<=w.heap.size+1;omega) _
    clear hlm hnu hrl LB hO' qf of K p1
    rcases HLM.out with ⟨hv0,hr0⟩ | ⟨gl,cl',hv0,hm0⟩
    · subst hv0
      have hq:=HF.out (.slice none 0 0) _ (Or.inl ⟨rfl,hr0⟩) rfl
      have HQ:=Za hq
      clear hq HF
      go_wp2_with fail
      refine bodyPost_ret (v:=.agg #[.slice (some ⟨gm,0,none⟩) ms.length c,.slice none 0 0]) (by simp [results,Tryz.results245,go_sem,q0,q1]) rfl ?_
      exact HQ.out
    · subst hv0
      have hq:=HF.out (.slice (some ⟨gl,0,none⟩) rs.length cl') _ (Or.inr ⟨gl,cl',rfl,hm0⟩) rfl
      have HQ:=Za hq
      clear hq HF hm0
      go_wp2_with fail
      refine bodyPost_ret (v:=.agg #[.slice (some ⟨gm,0,none⟩) ms.length c,.slice (some ⟨gl,0,none⟩) rs.length cl']) (by simp [results,Tryz.results245,go_sem,q0,q1]) rfl ?_
      exact HQ.out
theorem ZaP.uniq14{base:Nat}{w:World}{g c:Nat}{rs:List Rw}(h:ZaP base w g c rs){i j:Nat}(hi:i<rs.length)(hj:j<rs.length)(e:rs[i].1=rs[j].1):i=j:=by
 have hp:=List.pairwise_iff_getElem.1 h.apart
 rcases Nat.lt_trichotomy i j with h1 | h1 | h1
 · exact absurd (by rw [List.getElem_map,List.getElem_map];exact e) (hp i j (by simpa using hi) (by simpa using hj) h1)
 · exact h1
 · exact absurd (by rw [List.getElem_map,List.getElem_map];exact e.symm) (hp j i (by simpa using hj) (by simpa using hi) h1)
theorem ZaP.over14{base:Nat}{w w8:World}{g c:Nat}{rs:List Rw}(h:ZaP base w g c rs)(k:Nat)(hk:k<rs.length){gg cc:Nat}{ys:List Int}(hown:ZF base w8 gg cc ys)(hg:w.grownBy w8 (some rs[k].1))(hat:rs[k].1=gg\/w.heap.size<=gg):
 ZaP base (w8.setCell ⟨g,k,none⟩ (rwV (gg,cc,ys))) g c (rs.set k (gg,cc,ys)):=by
 have hk1:rs[k].1≠g:=h.off _ (List.getElem_mem hk)
 have hall:∀x∈rs,base<=x.1/\x.1<w.heap.size:=fun x hx=>(h.rows x hx).lt
 have hgl:=h.row.lt
 have hggg:gg≠g:=by rcases hat with e | e <;> omega
 have hnew:∀j (hj:j<rs.length),j≠k->rs[j].1≠gg:=fun j hj hne e=>by
  rcases hat with e' | e'
  · exact hne (h.uniq14 hj hk (by omega))
  · have:=hall _ (List.getElem_mem hj)
    omega
 have r1:Zdf base w8 g c rs:=h.row.kept hg (by simp;omega)
 have heap8:∀i,i≠g->(w8.setCell ⟨g,k,none⟩ (rwV (gg,cc,ys))).heap[i]? =w8.heap[i]? :=fun i hi=>Below.heap_setCell w8 ⟨g,k,none⟩ _ i (fun e=>hi e)
 refine⟨?_,fun x hx=>?_,?_,fun x hx=>?_⟩
 · have h1:=(World.ownsRow.stored r1 k (rwV (gg,cc,ys))).1
   unfold Zdf
   rw [List.length_set,List.map_set]
   exact h1
 · obtain⟨j,hj,e⟩:=List.getElem_of_mem hx
   rw [List.length_set] at hj
   rw [List.getElem_set] at e
   by_cases hjk:k=j
   · rw [if_pos hjk] at e
     rw [<-e]
     exact hown.same (heap8 gg hggg)
   · rw [if_neg hjk] at e
     rw [<-e]
     have hne:rs[j].1≠rs[k].1:=fun e'=>hjk (h.uniq14 hj hk e').symm
     have h2:=(h.rows _ (List.getElem_mem hj)).kept hg (by simp;omega)
     exact h2.same (heap8 _ (h.off _ (List.getElem_mem hj)))
 · refine List.pairwise_iff_getElem.2 (fun i j hi hj hij=>?_)
   have hi':i<rs.length:=by simpa using hi
   have hj':j<rs.length:=by simpa using hj
   simp only [List.getElem_map,List.getElem_set]
   by_cases h1:k=i
   · rw [if_pos h1,if_neg (by omega)]
     exact fun e=>hnew j hj' (by omega) e.symm
   · by_cases h2:k=j
     · rw [if_neg h1,if_pos h2]
       exact fun e=>hnew i hi' (by omega) e
     · rw [if_neg h1,if_neg h2]
       exact fun e=>by have:=h.uniq14 hi' hj' e;omega
 · obtain⟨j,hj,e⟩:=List.getElem_of_mem hx
   rw [List.length_set] at hj
   rw [List.getElem_set] at e
   by_cases hjk:k=j
   · rw [if_pos hjk] at e
     rw [<-e]
     exact hggg
   · rw [if_neg hjk] at e
     rw [<-e]
     exact h.off _ (List.getElem_mem hj)
def ZfO(v:Value)(rs:List Rw)(i:Nat):Prop:=v.ownBlock=some i\/∃r∈rs,i=r.1
theorem Zc8{base:Nat}{w:World}{v:Value}{rs:List Rw}(h:Zbv base w v rs){i:Nat}(hi:ZfO v rs i):base<=i/\i<w.heap.size:=by
 rcases h with ⟨rfl,rfl⟩ | ⟨g,c,rfl,h⟩
 · rcases hi with e | ⟨r,hr,-⟩
   · cases e
   · cases hr
 · refine h.all i ?_
   rcases hi with e | ⟨r,hr,rfl⟩
   · left
     have e':g=i:=by simpa [Value.ownBlock] using e
     exact e'.symm
   · exact Or.inr ⟨r,hr,rfl⟩
theorem Zcw{base:Nat}{w w':World}{v:Value}{rs:List Rw}(h:Zbv base w v rs)(e:∀i,ZfO v rs i->w'.heap[i]? =w.heap[i]?):Zbv base w' v rs:=by
 rcases h with h | ⟨g,c,rfl,h⟩
 · exact Or.inl h
 · refine Or.inr ⟨g,c,rfl,h.same (fun i hi=>e i ?_)⟩
   rcases hi with rfl | ⟨r,hr,rfl⟩
   · exact Or.inl rfl
   · exact Or.inr ⟨r,hr,rfl⟩
theorem Zhc{base:Nat}{w w8:World}{v:Value}{gg cc:Nat}{rs:List Rw}{r:Rw}(h:Zbv base w v rs)(hown:w8.ownsRow base 27 1 (.slice (some ⟨gg,0,none⟩) (rs.length+1) cc) (rs.length+1) (rs.map rwV++[rwV r]))
 (hgrow:w.grownBy w8 v.ownBlock) (hat:v.ownBlock=some gg\/gg=w.heap.size) (hr:ZF base w r.1 r.2.1 r.2.2) (hnew:¬ZfO v rs r.1):ZaP base w8 gg cc (rs++[r]):=by
 have hrl:=hr.lt
 rcases h with ⟨rfl,rfl⟩ | ⟨g,c,rfl,h⟩
 · have hgg:gg=w.heap.size:=by
    rcases hat with e | e
    · cases e
    · exact e
   refine⟨?_,fun x hx=>?_,by simp,fun x hx=>?_⟩
   · simpa [Zdf] using hown
   · simp at hx;rw [hx]
     exact hr.kept hgrow (by simp [Value.ownBlock])
   · simp at hx;rw [hx];omega
 · refine h.snoc hown hgrow ?_ hr (fun e=>hnew (Or.inl (by rw [e];rfl))) (fun x hx e=>hnew (Or.inr ⟨x,hx,e.symm⟩))
   rcases hat with e | e
   · left;simpa [Value.ownBlock] using e
   · exact Or.inr e
def ZbQ(base:Nat)(w:World)(gm cm gl cl:Nat)(ms:List Mk)(ls:List (List Int)):Prop:=
 ∃B ds B' rs,base<=B/\base<=B'/\ZL B w gm cm ds/\Zj ds=ms/\ZaP B' w gl cl rs/\ZaJ rs=ls/\∀b,(b=gm\/∃d∈ds,b=d.2.1)->b≠gl/\∀r∈rs,b≠r.1
theorem ZbQ.views{base:Nat}{w:World}{gm cm gl cl:Nat}{ms:List Mk}{ls:List (List Int)}(h:ZbQ base w gm cm gl cl ms ls):Zq w (some ⟨gm,0,none⟩) ms/\Z8 w (some ⟨gl,0,none⟩) ls:=by
 obtain⟨B,ds,B',rs,-,-,h1,rfl,h2,rfl,-⟩:=h
 exact⟨h1.view,h2.view.cview⟩
theorem Zlb(am al at':Option Addr)(cm cl ct:Nat)(ms:List Mk)(ls:List (List Int))(m:Mk)(most:Int)(w:World)(hm:Zq w am ms)(hl:Z8 w al ls)(ha:Zs w at' m.2)(hal:m.2.length<=1048576)(hw:Zab ms ls=true):
 Calls Tryz.prog 197 #[.agg #[.slice am ms.length cm,.slice al ls.length cl],.agg #[.int .i64 m.1,.slice at' m.2.length ct],.int .i64 most] w fun e w'=>
  (Zn (ms++[m])=false/\e=.returned (.tuple #[.agg #[.slice none 0 0,.slice none 0 0],.bool false])/\Below w.heap.size w w')\/
  (Zn (ms++[m])=true/\∃gm cm' gl cl',e=.returned (.tuple #[.agg #[.slice (some ⟨gm,0,none⟩) (ms.length+1) cm',.slice (some ⟨gl,0,none⟩) (ls.length+1) cl'],.bool true])/\ZbQ w.heap.size w' gm cm' gl cl' (ms++[m]) (Zcx ms ls (ZbS ms m.2 most) m.1)/\Below w.heap.size w w'):=by
 obtain⟨i0,hi0,hx0,hx1,hx2⟩:=info_parts Tryz.info2
 obtain⟨j0,hj0,hy0,hy1,hy2⟩:=info_parts Tryz.infoL
 obtain⟨m0,hm0,hv0,hv1,hv2⟩:=info_parts Tryz.info29
 obtain⟨h60,h4,hl60,hll⟩:=ZaR hw
 obtain⟨W1,hW1⟩:∃W,w.alloc (.cells #[.slice am ms.length cm,.slice al ls.length cl] 47)=W:=⟨_,rfl⟩
 obtain⟨W2,hW2⟩:∃W,W1.alloc (.cells #[.int .i64 m.1,.slice at' m.2.length ct] 29)=W:=⟨_,rfl⟩
 obtain⟨W,hW⟩:∃W,W2.alloc (.cells #[.slice none 0 0,.slice none 0 0] 47)=W:=⟨_,rfl⟩
 have s1:W1.heap.size=w.heap.size+1:=by rw [<-hW1];simp
 have s2:W2.heap.size=w.heap.size+1+1:=by rw [<-hW2];simp [s1]
 have s3:W.heap.size=w.heap.size+1+1+1:=by rw [<-hW];simp [s2]
 have b1:Below w.heap.size w W1:=by rw [<-hW1];exact (Below.refl _ _).alloc (Nat.le_refl _) _
 have b2:Below W1.heap.size W1 W2:=by rw [<-hW2];exact (Below.refl _ _).alloc (Nat.le_refl _) _
 have b3:Below W2.heap.size W2 W:=by rw [<-hW];exact (Below.refl _ _).alloc (Nat.le_refl _) _
 have hB:Below w.heap.size w W:=Zd (Zd b1 b2) b3
 have hI:Zac W w.heap.size am cm ms al cl ls:=(show Zac W1 w.heap.size am cm ms al cl ls by rw [<-hW1];exact Zac.box hm hl).below (Zd b2 b3)
 have t2:W.heap[w.heap.size+1]? =some (.cells #[.int .i64 m.1,.slice at' m.2.length ct] 29):=(b3.block _ (by omega)).trans (by rw [<-hW2,<-s1];exact heap_alloc_new W1 _)
 have t3:W.heap[w.heap.size+1+1]? =some (.cells #[.slice none 0 0,.slice none 0 0] 47):=by rw [<-hW,<-s2];exact heap_alloc_new W2 _
 have HI:=Za hI
 have HB:=Za hB
 have HA:=Za (Zs.next ha hB)
 have HT:=Za (And.intro t2 t3)
 have k0:=hI.c0
 have k1:=hI.c1
 have HW:=Za hw
 have HC:=Za (Zk9 am al cm cl ms ls W hI.mv hI.cv h60 h4 hl60 hll)
 clear hm hl ha hB hI b1 b2 b3 t2 t3 hw h4 hll
 go_enter Tryz.func197,Tryz.ntmps197
 go_wp2_with fail
 refine HC.out.mono ?_
 rintro e w3 ⟨gm,cm2,ds,v,rs,B1,rfl,hrow,hdm,hlm,hnu,hgm,hds,hB1,hB1',L3⟩
 obtain⟨av,cv,rfl⟩:∃av cv,v=.slice av rs.length cv:=by
  rcases hlm with ⟨h1,h2⟩ | ⟨g,c,h1,-⟩
  · exact⟨none,0,by rw [h1,h2];rfl⟩
  · exact⟨_,_,h1⟩
 have hrl:rs.length=ls.length:=by have:=congrArg List.length hnu;simpa [ZaJ] using this
 obtain⟨w4,hw4⟩:∃w4,w3.alloc (.cells #[.slice (some ⟨gm,0,none⟩) ms.length cm2,.slice av rs.length cv] 47)=w4:=⟨_,rfl⟩
 have L4:Below w3.heap.size w3 w4:=by rw [<-hw4];exact (Below.refl _ _).alloc (Nat.le_refl _) _
 have s4:w4.heap.size=w3.heap.size+1:=by rw [<-hw4];simp
 have z3:=L3.size
 have HO4:Hid (w4.heap[w3.heap.size]? =some (.cells #[.slice (some ⟨gm,0,none⟩) ms.length cm2,.slice av rs.length cv] 47)):=by show _=_;rw [<-hw4];exact heap_alloc_new w3 _
 have HD4:=Za (hrow.kept (r:=none) ⟨L4.os,L4.tape,L4.output,L4.size,fun i hi _=>L4.block i hi⟩ (by simp))
 have HM4:=Za (hlm.same (w':=w4) (fun j _ hj=>L4.block j hj))
 have HLI:Hid (∀i,ZfO (.slice av rs.length cv) rs i->B1<=i/\i<w3.heap.size):=fun i hi=>Zc8 hlm hi
 have HDM:=Za hdm
 have HNU:=Za hnu
 have HDS:=Za hds
 have HL4:=Za (Zd L3 L4)
 have HI4:=Za (HI.out.below HL4.out)
 have HW4:=Za hw4
 have HRL:=Za hrl
 obtain⟨e20,e21,-,-⟩:=Z6 (show w4.heap[w.heap.size+1]? =_ from (HL4.out.block _ (by omega)).trans HT.out.1)
 obtain⟨Sc,hSc⟩:∃n,w3.heap.size=n:=⟨_,rfl⟩
 have HA4:=Za (Zs.next HA.out HL4.out)
 have hgml:=hrow.lt
 clear hrow hdm hlm hnu hds L3 L4 hrl hw4 HC k0 k1 hW hW1 hW2
 go_wp2_with fail
 rw [HW4.out]
 have HO4c:=Z6 HO4.out
 obtain⟨o0,o1,of,-⟩:=HO4c
 rw [hSc] at o0 o1 of HO4 HLI s4
 try rw [hSc]
 have HSC:=Za hSc
 have hz3s:W.heap.size<=Sc:=by omega
 have hgs:gm<Sc:=by omega
 have hB1s:B1<=Sc:=by omega
 clear hSc HW4
 have HS0:Hid (∀W':World,(∀j,j<Sc+1->W'.heap[j]? =w4.heap[j]?)->W'.cell? ⟨Sc,0,none⟩=some (.slice (some ⟨gm,0,none⟩) ms.length cm2)/\W'.cell? ⟨w.heap.size+1,0,none⟩=some (.int .i64 m.1)/\W'.cell? ⟨w.heap.size+1,1,none⟩=some (.slice at' m.2.length ct)):=fun W' h=>⟨(World.cell?_of_block (h Sc (by omega))).trans o0,(World.cell?_of_block (h (w.heap.size+1) (by omega))).trans e20,(World.cell?_of_block (h (w.heap.size+1) (by omega))).trans e21⟩
 refine ZR (S:=fun W'=>W'.cell? ⟨Sc,0,none⟩=some (.slice (some ⟨gm,0,none⟩) ms.length cm2)/\W'.cell? ⟨w.heap.size+1,0,none⟩=some (.int .i64 m.1)/\W'.cell? ⟨w.heap.size+1,1,none⟩=some (.slice at' m.2.length ct)) (fuel:=6)
  [0,1,2,3,5,6] _ rfl (by kernel_rfl) (by kernel_rfl) (by kernel_rfl) (by kernel_rfl) (by kernel_rfl) (by kernel_rfl) (by kernel_rfl) (HS0.out _ (fun j _=>rfl)) (fun _=>?_)
 iterate 6 (refine⟨_,rfl,?_⟩;apply Exists.intro;refine⟨Or.inl ⟨by rfl,fun w' hw'=>?_⟩,?_⟩;(focus (obtain⟨e1,e2,e3⟩:=hw';first | (go_simp;done) | (go_simp;with_reducible rfl)));simp only [Act.put,List.setIfInBounds_toArray])
 refine Zc 4 (by kernel_rfl) rfl (fun K hK=>?_)
 go_simp
 obtain⟨w5,hw5⟩:∃w5,(w4.alloc (.cells #[] 2)).drew=w5:=⟨_,rfl⟩
 have HL5:Hid (Below w4.heap.size w4 w5):=by show Below _ _ _;rw [<-hw5];exact ((Below.refl w4.heap.size w4).alloc (Nat.le_refl _) _).drew
 have HR5:Hid (Row W.heap.size w5 w4.heap.size 0 []):=by show Row _ _ _ _ _;rw [<-hw5];exact Row.start w4 W.heap.size (by omega)
 have hs5:w5.heap.size=w4.heap.size+1:=by rw [<-hw5];simp
 try rw [<-s4]
 rw [hw5]
 clear hw5
 refine hK.out _ _ (HS0.out _ (fun j hj=>HL5.out.block j (by omega))) (fun _=>?_)
 clear hK K
 refine Zc 7 (by kernel_rfl) rfl (fun K hK=>?_)
 refine Zi w5 rfl (.tmp 19) (.tmp 21) 27 rfl W.heap.size 2 i0 _ 1 8 Tryz.underlying27 hi0 hx0 hx1 hx2 rfl (by omega) w4.heap.size 0 0 [] rfl HR5.out at' m.2.length ct (m.2.map (Value.int .i64)) rfl (ZY (Zs.next HA4.out HL5.out)) (by unfold maxLen;omega) (by omega) (by omega) w5.heap.size rfl ?_
 intro g6 c6 w6 hown6 hgrow6 hat6 hlt6
 have HR6:Hid (Row W.heap.size w6 g6 c6 m.2):=Zbm hown6 rfl
 have hz6:=hgrow6.size
 have HL6:Hid (Below w4.heap.size w4 w6):=HL5.out.grown hgrow6 (by omega) (by intro q hq;cases hq;omega)
 have hg6b:w4.heap.size<=g6:=by rcases hat6 with e | e <;> omega
 clear hown6 hgrow6
 refine hK.out _ _ (HS0.out _ (fun j hj=>HL6.out.block j (by omega))) (fun _=>?_)
 clear hK K
 refine Zc 8 (by kernel_rfl) rfl (fun K hK=>?_)
 go_simp
 refine hK.out _ _ (HS0.out _ (fun j hj=>HL6.out.block j (by omega))) (fun _=>?_)
 clear hK K
 refine Zc 9 (by kernel_rfl) rfl (fun K hK=>?_)
 go_simp
 obtain⟨w7,hw7⟩:∃w7,w6.alloc (.cells #[.int .i64 m.1,.slice (some ⟨g6,0,none⟩) m.2.length c6] 29)=w7:=⟨_,rfl⟩
 have HN7:Hid (w7.heap[w6.heap.size]? =some (.cells #[.int .i64 m.1,.slice (some ⟨g6,0,none⟩) m.2.length c6] 29 (0,0))):=by show _=_;rw [<-hw7];exact heap_alloc_new w6 _
 have L67:Below w6.heap.size w6 w7:=by rw [<-hw7];exact (Below.refl _ _).alloc (Nat.le_refl _) _
 have hs7:w7.heap.size=w6.heap.size+1:=by rw [<-hw7];simp
 have HL7:=Za (Zd HL6.out L67)
 have HR7:=Za (HR6.out.next L67 HR6.out.lt2.2)
 have hg6:=HR6.out.lt2
 have HD7:=Za (HD4.out.kept (r:=none) ⟨HL7.out.os,HL7.out.tape,HL7.out.output,HL7.out.size,fun i hi _=>HL7.out.block i hi⟩ (by simp))
 have hdl:ds.length=ms.length:=by have:=congrArg List.length HDM.out;simpa [Zj] using this
 have HDL:=Za hdl
 try rw [Nat.zero_add]
 try rw [hw7]
 clear hw7 L67 hdl
 refine hK.out _ _ (HS0.out _ (fun j hj=>HL7.out.block j (by omega))) (fun _=>?_)
 clear hK K
 refine Zc 10 (by kernel_rfl) rfl (fun K hK=>?_)
 refine Zi w7 rfl (.tmp 16) (.tmp 24) 44 rfl W.heap.size 29 m0 _ 2 32 Tryz.underlying44 hm0 hv0 hv1 hv2 rfl (by omega) gm ms.length cm2 (Zu ds) rfl (by have h:=HD7.out.1;rw [HDL.out] at h;exact h) (some ⟨w6.heap.size,0,none⟩) 1 1 [.int .i64 m.1,.slice (some ⟨g6,0,none⟩) m.2.length c6] rfl (Zc9 HN7.out) (by unfold maxLen;omega) (by omega) (by omega) w7.heap.size rfl ?_
 intro g8 c8 w8 hown8 hgrow8 hat8 hlt8
 have HD8:Hid (ZL W.heap.size w8 g8 c8 (ds++[(m.1,g6,c6,m.2)])):=ZL.snoc HD7.out HR7.out (by omega) (fun d hd=>by
  have h1:=HDS.out d hd
  omega) (by rw [HDL.out];exact hown8) hgrow8 (by rcases hat8 with e | e;exact Or.inl e.symm;exact Or.inr e)
 have HK8:Hid (∀j,j<w4.heap.size->j≠gm->w8.heap[j]? =w4.heap[j]?):=fun j hj hne=>(hgrow8.block j (by omega) (by simp;exact hne)).trans (HL7.out.block j hj)
 have HKK:Hid (w8.os=w4.os/\w8.tape=w4.tape/\w8.output=w4.output):=⟨hgrow8.os.trans HL7.out.os,hgrow8.tape.trans HL7.out.tape,hgrow8.output.trans HL7.out.output⟩
 have hz8:=hgrow8.size
 have hg8:g8=gm\/Sc+1<=g8:=by rcases hat8 with e | e;exact Or.inl e.symm;exact Or.inr (by omega)
 have HS8:Hid (w8.cell? ⟨Sc,0,none⟩=some (.slice (some ⟨gm,0,none⟩) ms.length cm2)/\w8.cell? ⟨w.heap.size+1,0,none⟩=some (.int .i64 m.1)/\w8.cell? ⟨w.heap.size+1,1,none⟩=some (.slice at' m.2.length ct)):=⟨(World.cell?_of_block (HK8.out Sc (by omega) (by omega))).trans o0,(World.cell?_of_block (HK8.out (w.heap.size+1) (by omega) (by omega))).trans e20,(World.cell?_of_block (HK8.out (w.heap.size+1) (by omega) (by omega))).trans e21⟩
 clear hown8 hgrow8
 refine hK.out _ _ HS8.out (fun _=>?_)
 clear hK K
 refine Zc 11 (by kernel_rfl) rfl (fun K hK=>?_)
 go_simp
 refine hK.out _ _ HS8.out (fun _=>?_)
 clear hK K
 refine wpAnyH_done (by kernel_rfl) ?_ _
 simp only [Exit.then]
 have t8:=(HK8.out Sc (by omega) (by omega)).trans HO4.out
 obtain⟨u0,u1,uf,uO⟩:=Z6 t8
 have uf0:=uf 0
 obtain⟨w9,hw9⟩:∃w9,w8.setCell ⟨Sc,0,none⟩ (.slice (some ⟨g8,0,none⟩) (ms.length+1) c8)=w9:=⟨_,rfl⟩
 have HT9:Hid (w9.heap[Sc]? =some (.cells #[.slice (some ⟨g8,0,none⟩) (ms.length+1) c8,.slice av rs.length cv] 47)):=by show _=_;rw [<-hw9];exact (Zjk t8).1
 have hf9:∀j,j≠Sc->w9.heap[j]? =w8.heap[j]? :=fun j hj=>by rw [<-hw9];exact Below.heap_setCell w8 ⟨Sc,0,none⟩ _ j (fun e=>hj e)
 have hz9:w9.heap.size=w8.heap.size:=by rw [<-hw9];simp [World.setCell]
 have HD9:Hid (ZL W.heap.size w9 g8 c8 (ds++[(m.1,g6,c6,m.2)])):=⟨Zaa HD8.out.1 (hf9 g8 (by omega)),fun d hd=>⟨(HD8.out.2.1 d hd).1.same (hf9 d.2.1 (by
  rcases List.mem_append.1 hd with h | h
  · have:=HDS.out d h;omega
  · simp at h;rw [h];show g6≠Sc;omega)),(HD8.out.2.1 d hd).2⟩,HD8.out.2.2⟩
 have HM9:Hid (Zbv B1 w9 (.slice av rs.length cv) rs):=Zcw HM4.out (fun j hj=>by
  have h:=HLI.out j hj
  exact (hf9 j (by omega)).trans (HK8.out j (by omega) (by omega)))
 have HL9:Hid (Below W.heap.size W w9):=⟨by rw [<-hw9];exact HKK.out.1.trans HL4.out.os,by rw [<-hw9];exact HKK.out.2.1.trans HL4.out.tape,by rw [<-hw9];exact HKK.out.2.2.trans HL4.out.output,by omega,fun j hj=>(hf9 j (by omega)).trans ((HK8.out j (by omega) (by omega)).trans (HL4.out.block j hj))⟩
 have HDM9:Hid (Zj (ds++[(m.1,g6,c6,m.2)])=ms++[m]):=by show _=_;rw [Zj,List.map_append,<-Zj,HDM.out];rfl
 have HBK:Hid ((g8<B1\/Sc+1<=g8/\g8<w9.heap.size)/\∀d∈(ds++[(m.1,g6,c6,m.2)]),d.2.1<B1\/Sc+1<=d.2.1/\d.2.1<w9.heap.size):=⟨by rcases hg8 with e | e;exact Or.inl (by omega);exact Or.inr ⟨e,by omega⟩,fun d hd=>by
  rcases List.mem_append.1 hd with h | h
  · exact Or.inl (HDS.out d h)
  · simp at h;rw [h];right;show Sc+1<=g6/\g6<_;omega⟩
 have HW9:=Za hw9
 clear HS0 HL5 HR5 HL6 HR6 HL7 HR7 HD7 HN7 HD8 HK8 HKK HS8 t8 hf9 HD4 HM4 HO4 hw9 uf
 go_wp2_with fail
 try rw [HW9.out]
 refine NoPanic.normal ?_
 have HMV9:Hid (Zq w9 (some ⟨g8,0,none⟩) (ms++[m])):=by show Zq _ _ _;rw [<-HDM9.out];exact HD9.out.view
 have HML:Hid ((ms++[m]).length=ms.length+1):=by show _=_;simp
 have HMO:=Za (Zgv (some ⟨g8,0,none⟩) c8 (ms++[m]) w9 HMV9.out ⟨by rw [HML.out];omega,fun i=>by
  rcases Nat.lt_trichotomy i ms.length with h | h | h
  · rw [Zhd h];have:=(ZaR HW.out).2.1 i;omega
  · rw [h,Zhe];omega
  · have:mat (ms++[m]) i=[]:=by simp [mat,List.getD,show ms.length+1<=i by omega]
    rw [this];simp⟩)
 rw [HML.out] at HMO
 obtain⟨x0,x1,-,-⟩:=Z6 HT9.out
 rcases hmk:Zn (ms++[m]) with _ | _
 · rw [hmk] at HMO
   have hr0:W.heap.size=w.heap.size+1+1+1:=s3
   have y2:=(HL9.out.block (w.heap.size+1+1) (by omega)).trans HT.out.2
   obtain⟨y0,y1,yf,-⟩:=Z6 y2
   have yf0:=yf 0
   have yf1:=yf 1
   clear yf y2
   go_wp2_with fail
   refine HMO.out.mono ?_
   rintro e wa ⟨rfl,na,rfl⟩
   go_wp2_with fail
   refine bodyPost_ret (v:=.tuple #[.agg #[.slice none 0 0,.slice none 0 0],.bool false]) (by simp [results,Tryz.results197,go_sem,y0,y1]) rfl ?_
   left
   refine⟨by trivial,rfl,?_⟩
   exact ((below_drewN (Zd HB.out HL9.out) na).setCell (by show w.heap.size<=w.heap.size+1+1;omega) _).setCell (by show w.heap.size<=w.heap.size+1+1;omega) _
 rw [hmk] at HMO
 go_wp2_with fail
 refine HMO.out.mono ?_
 rintro e wa ⟨rfl,na,hwa⟩
 have HLa:Hid (Below w9.heap.size w9 wa):=by show Below _ _ _;rw [hwa];exact below_drewN (Below.refl _ _) na
 have hIa:=HI.out.below (Zd HL9.out HLa.out)
 have p0:=hIa.c0
 obtain⟨e40,e41,-,-⟩:=Z6 ((HLa.out.block (w.heap.size+1) (by omega)).trans ((HL9.out.block (w.heap.size+1) (by omega)).trans HT.out.1))
 have HNE:=Za (sNear am at' cm ct ms m.2 most wa hIa.mv (Zs.next HA.out (Zd HL9.out HLa.out)) ⟨by omega,fun i=>by have:=(ZaR HW.out).2.1 i;omega⟩ hal)
 clear hwa hIa HMO
 go_wp2_with fail
 refine HNE.out.mono ?_
 rintro e wb ⟨gh,ch,rfl,hrb,Lb⟩
 obtain⟨wc,hwc⟩:∃wc,wb.alloc (.cells #[] 2)=wc:=⟨_,rfl⟩
 have Lc:Below wb.heap.size wb wc:=by rw [<-hwc];exact (Below.refl _ _).alloc (Nat.le_refl _) _
 have hsc:wc.heap.size=wb.heap.size+1:=by rw [<-hwc];simp
 have HL9c:=Za (Zd HLa.out (Zd Lb Lc))
 have HHR:=Za (hrb.below (Nat.le_refl _) Lc)
 have HRO:Hid (Row w9.heap.size wc wb.heap.size 0 []):=by show Row _ _ _ _ _;rw [<-hwc];exact Row.start wb w9.heap.size (by have:=HLa.out.size;have:=Lb.size;omega)
 have hza:=HLa.out.size
 have hzb:=Lb.size
 have hghb:=hrb.lt
 have hgo:gh≠wb.heap.size:=by omega
 clear Lb Lc hrb
 go_wp2_with fail
 try rw [hwc]
 obtain⟨hs,hhs⟩:∃hs,Z1 ms m.2 most=hs:=⟨_,rfl⟩
 have HIDS:Hid (ZbS ms m.2 most=hs.map (fun h=>h.1)):=by show _=_;rw [ZbS,hhs]
 have hhl:hs.length<=60:=by rw [<-hhs];exact ZeZ ms m.2 most
 rw [hhs] at HHR
 rw [hhs]
 have HND:Hid ((hs.map (fun h=>h.1)).Nodup):=by show List.Nodup _;rw [<-HIDS.out];exact Zex (ZJ HW.out) m.2 most
 have HFD:Hid (∀i,i<hs.length->0<=Zv ms (Zr hs i).1):=fun i hi=>Zb4 (ZJ HW.out) _ (by rw [HIDS.out];exact List.mem_map.2 ⟨Zr hs i,Zhf hi,rfl⟩)
 have HLL:=Za (Za5 HW.out)
 have HNT:Hid (∀i,nth (hs.map (fun h=>h.1)) i=(Zr hs i).1\/hs.length<=i):=fun i=>by
  rcases Nat.lt_or_ge i hs.length with h | h
  · left;simp [nth,Zr,List.getD,h]
  · exact Or.inr h
 have hcnt:wc.heap.size=wb.heap.size+1:=hsc
 have HB2:Hid (Sc+1<=w9.heap.size/\w9.heap.size<=wb.heap.size):=⟨by omega,by omega⟩
 have HMc:=Za (Zcw HM9.out (w':=wc) (fun j hj=>HL9c.out.block j (by have:=HLI.out j hj;omega)))
 go_loopw [10,11] (fun vo vi wr=>∃(i go co:Nat) (rs':List Rw),i<=hs.length/\vi=.int .i64 i/\vo=.slice (some ⟨go,0,none⟩) (((hs.map (fun h=>h.1)).take i).foldl Zaw []).length co/\Row w9.heap.size wr go co (((hs.map (fun h=>h.1)).take i).foldl Zaw [])/\rs'.length=rs.length/\Zbv B1 wr (.slice av rs.length cv) rs'/\ZaJ rs'=Ze0 ms ls ((hs.map (fun h=>h.1)).take i) m.1/\(∀b,ZfO (.slice av rs.length cv) rs' b->B1<=b/\(b<Sc\/wc.heap.size<=b)/\b≠go)/\(∀j,j<wc.heap.size->(j<B1\/Sc<=j)->wr.heap[j]? =wc.heap[j]?)/\wr.os=wc.os/\wr.tape=wc.tape/\wr.output=wc.output/\wc.heap.size<=wr.heap.size) (fun _ vi _=>hs.length-(intOf vi).toNat)
 case atStart=>exact⟨0,_,0,rs,Nat.zero_le _,rfl,rfl,HRO.out,rfl,HMc.out,by rw [List.take_zero,Zlc HLL.out];exact HNU.out,fun b hb=>by have h1:=HLI.out b hb;have h2:=HB2.out;exact⟨by omega,by omega,by omega⟩,fun _ _ _=>rfl,rfl,rfl,rfl,Nat.le_refl _⟩
 case round=>
  clear HMc HRO
  obtain⟨i,go,co,rs',hi,rfl,rfl,hro,hrl',hlm,hnu,hlb,hfr,ho1,ho2,ho3,hzr⟩:=hrel
  have HB2':=HB2.out
  obtain⟨acc,hacc⟩:∃acc,((hs.map (fun h=>h.1)).take i).foldl Zaw []=acc:=⟨_,rfl⟩
  have hal':acc.length<=60:=by
   rw [<-hacc]
   have:=Ze1 ((hs.map (fun h=>h.1)).take i) []
   simp at this
   simp
   omega
  rw [hacc] at hro
  rw [hacc]
  have HACC:=Za hacc
  have HRO:=Za hro
  have HLM:=Za hlm
  have HNU':=Za hnu
  have HLBK:=Za hlb
  have HFR:=Za hfr
  have HRL':=Za hrl'
  have HOS:Hid (wr.os=wc.os/\wr.tape=wc.tape/\wr.output=wc.output):=⟨ho1,ho2,ho3⟩
  have hgo':=hro.lt2
  have hLW:Below W.heap.size W wr:=⟨ho1.trans (HL9c.out.os.trans HL9.out.os),ho2.trans (HL9c.out.tape.trans HL9.out.tape),ho3.trans (HL9c.out.output.trans HL9.out.output),by have:=HL9.out.size;have:=HL9c.out.size;omega,fun j hj=>(hfr j (by omega) (by omega)).trans ((HL9c.out.block j (by omega)).trans (HL9.out.block j hj))⟩
  have HLW:=Za hLW
  clear hacc hro hlm hnu hlb hfr hrl' ho1 ho2 ho3 hLW
  by_cases hlt:i<hs.length
  · have hfx:=HFD.out i hlt
    obtain⟨hj1,hj2,hj3⟩:=ZQ hfx
    have hcx:wr.cell? ⟨gh,i*2,none⟩=some (.int .i64 (Zr hs i).1):=by
     have h:=(HHR.out.seg i hlt).1
     rw [Nat.zero_add] at h
     exact (World.cell?_of_block (HFR.out gh (by omega) (by omega))).trans h
    have HNX:Hid (nth (hs.map (fun h=>h.1)) i=(Zr hs i).1):=by rcases HNT.out i with h | h;exact h;omega
    obtain⟨x,hx⟩:∃x,(Zr hs i).1=x:=⟨_,rfl⟩
    rw [hx] at hfx hj1 hj2 hj3 hcx HNX
    obtain⟨j,hj⟩:∃j,Zy ms x=j:=⟨_,rfl⟩
    rw [hj] at hj1 hj2 hj3
    have HJM:=Za hj3
    have hi0':(0:Int)<=(i:Int):=Int.natCast_nonneg _
    have hi1':(i:Int)<(hs.length:Int):=by omega
    have HP:=Za (sPutI w9.heap.size go co acc x wr HRO.out (by omega) (by omega))
    have HACC2:Hid (((hs.map (fun h=>h.1)).take (i+1)).foldl Zaw []=Zaw acc x):=by
     show _=_
     rw [List.take_add_one,List.foldl_append,HACC.out]
     have e:(hs.map (fun h=>h.1))[i]?.toList=[x]:=by
      have h:=HNX.out
      simp [nth,List.getD,hlt] at h
      simp [hlt,h]
     rw [e]
     rfl
    have HJ2:=Za hj2
    clear hfx hj hx hj2 hj3
    go_wp2_with fail
    refine HP.out.mono ?_
    rintro e w1 ⟨go2,co2,rfl,hro1,L1,hg2⟩
    have hz1:=L1.size
    have HRO1:=Za hro1
    have HL1:=Za L1
    have HFI:=Za (fun W' (L':Below w1.heap.size w1 W')=>Ze2 am cm ms x W' (HI.out.below (Zd HLW.out (Zd HL1.out L'))).mv (by omega))
    rw [<-HJ2.out] at HFI
    have HS1:Hid (∀W',Below w1.heap.size w1 W'->W'.cell? ⟨w.heap.size,0,none⟩=some (.slice am ms.length cm)/\W'.cell? ⟨gh,i*2,none⟩=some (.int .i64 x)):=fun W' L'=>⟨(HI.out.below (Zd HLW.out (Zd HL1.out L'))).c0,((Zd HL1.out L').cell (p:=⟨gh,i*2,none⟩) (by show gh<_;omega)).trans hcx⟩
    have BL1:=Za ((Below.refl w1.heap.size w1).drew)
    have hgol:=hro1.lt2
    clear hro1 L1 HP
    go_wp2_with fail
    refine Zt (S:=fun W'=>Below w1.heap.size w1 W') (fuel:=2) [0,1,2,3,4,5,6] (by kernel_rfl) (by kernel_rfl) (by kernel_rfl) (by kernel_rfl) BL1.out (fun _=>?_)
    iterate 7 (refine⟨_,rfl,?_⟩;apply Exists.intro;refine⟨Or.inl ⟨by rfl,fun w' hw'=>?_⟩,?_⟩;(focus (obtain⟨e1,e2⟩:=HS1.out w' hw';first | (go_simp;done) | (go_simp;with_reducible rfl)));simp only [Act.put,List.getElem_toArray,List.getElem_cons_succ,List.getElem_cons_zero,List.setIfInBounds_toArray,List.set_cons_zero,List.set_cons_succ])
    refine Zc 7 (by kernel_rfl) rfl (fun K hK=>?_)
    go_simp
    refine (HFI.out _ BL1.out).mono ?_
    rintro e w2 ⟨rfl,hw2⟩
    have HL2:Hid (Below w1.heap.size w1 w2):=by show Below _ _ _;rw [hw2];exact BL1.out
    clear hw2
    refine hK.out _ _ HL2.out (fun _=>?_)
    clear hK K
    refine ZB [8] rfl (by kernel_rfl) (by kernel_rfl) (by kernel_rfl) HL2.out ?_
    iterate 1 (refine⟨_,rfl,?_⟩;apply Exists.intro;refine⟨Or.inl ⟨by rfl,fun w' hw'=>?_⟩,?_⟩;(focus (first | (go_simp;done) | (go_simp;with_reducible rfl)));simp only [Act.put,List.getElem_toArray,List.getElem_cons_succ,List.getElem_cons_zero,List.setIfInBounds_toArray,List.set_cons_zero,List.set_cons_succ])
    refine NoPanic.normal (NoPanic.normal ?_)
    have hz2:=HL2.out.size
    have HL12:=Za (Zd HL1.out HL2.out)
    have hrn:rs'.length=ms.length:=by have h1:=HRL'.out;have h2:=HRL.out;have h3:=HLL.out;omega
    have HM2:=Za (Zcw HLM.out (w':=w2) (fun b hb=>HL12.out.block b (Zc8 HLM.out hb).2))
    obtain⟨gl,hav,hlmem⟩:∃gl,av=some ⟨gl,0,none⟩/\ZaP B1 w2 gl cv rs':=by
     rcases HM2.out with ⟨h1,h2⟩ | ⟨g,c,h1,h2⟩
     · rw [h2] at hrn;simp at hrn;omega
     · injection h1 with e1 e2 e3
       subst e1 e3
       exact⟨g,rfl,h2⟩
    subst hav
    have hjr:j<rs'.length:=by omega
    have hgll:=hlmem.row.lt
    have hgl1:=HLBK.out gl (Or.inl rfl)
    have hrow:(rs'[j]).2.2=cn ls j:=by
     have h:=congrArg (fun l=>l[j]?) HNU'.out
     simp only [ZaJ,List.getElem?_map,List.getElem?_eq_getElem hjr,Option.map_some] at h
     rw [ZeH hj1,(ZfX (ZJ HW.out) HND.out (by simpa using hlt) hj1 (HNX.out.trans HJM.out.symm) m.1).1] at h
     injection h
    have HIR:=Za (hlmem.rows _ (List.getElem_mem hjr))
    have hcj:=hlmem.row.cell j hjr
    have hfj:=World.ownsRow.frozenAt hlmem.row j
    have hrb:=HLBK.out (rs'[j]).1 (Or.inr ⟨_,List.getElem_mem hjr,rfl⟩)
    have HMEM:=Za hlmem
    obtain⟨r,hr⟩:∃r,rs'[j]=r:=⟨_,rfl⟩
    rw [hr] at hrow HIR hcj hrb
    obtain⟨r1,rc,rx⟩:=r
    simp only at hrow
    subst hrow
    have HR0:=Za hr
    have hcl:=(ZaR HW.out).2.2.2 j
    have hir:=HIR.out.lt
    have hoff:=HMEM.out.off _ (List.getElem_mem hjr)
    rw [hr] at hoff
    simp only at hoff hrb hir
    have hcj':w2.cell? ⟨gl,j,none⟩=some (.slice (some ⟨r1,0,none⟩) (cn ls j).length rc):=hcj
    have hOc:w2.cell? ⟨Sc,1,none⟩=some (.slice (some ⟨gl,0,none⟩) rs.length cv):=(World.cell?_of_block ((HL12.out.block Sc (by omega)).trans ((HFR.out Sc (by omega) (by omega)).trans (HL9c.out.block Sc (by omega))))).trans x1
    have hmc:w2.cell? ⟨w.heap.size+1,0,none⟩=some (.int .i64 m.1):=by
     obtain⟨a0,-,-,-⟩:=Z6 ((Zd HLW.out HL12.out).block (w.heap.size+1) (by omega) |>.trans HT.out.1)
     exact a0
    have hj0':(0:Int)<=(j:Int):=Int.natCast_nonneg _
    have hj1':(j:Int)<(rs.length:Int):=by have:=HRL'.out;omega
    have HS2:Hid (∀W':World,(∀b,(b=Sc\/b=gl\/b=w.heap.size+1)->W'.heap[b]? =w2.heap[b]?)->W'.cell? ⟨Sc,1,none⟩=some (.slice (some ⟨gl,0,none⟩) rs.length cv)/\W'.cell? ⟨gl,j,none⟩=some (.slice (some ⟨r1,0,none⟩) (cn ls j).length rc)/\W'.cell? ⟨w.heap.size+1,0,none⟩=some (.int .i64 m.1)):=fun W' h=>⟨(World.cell?_of_block (h Sc (Or.inl rfl))).trans hOc,(World.cell?_of_block (h gl (Or.inr (Or.inl rfl)))).trans hcj',(World.cell?_of_block (h (w.heap.size+1) (Or.inr (Or.inr rfl)))).trans hmc⟩
    clear HM2 hlmem hcj hr HS1 BL1 HFI
    go_wp2_with fail
    refine ZR (S:=fun W'=>W'.cell? ⟨Sc,1,none⟩=some (.slice (some ⟨gl,0,none⟩) rs.length cv)/\W'.cell? ⟨gl,j,none⟩=some (.slice (some ⟨r1,0,none⟩) (cn ls j).length rc)/\W'.cell? ⟨w.heap.size+1,0,none⟩=some (.int .i64 m.1)) (fuel:=3)
     [0,1,2,3,4,5,6,7,8,9] _ rfl (by kernel_rfl) (by kernel_rfl) (by kernel_rfl) (by kernel_rfl) (by kernel_rfl) (by kernel_rfl) (by kernel_rfl) (HS2.out _ (fun _ _=>rfl)) (fun _=>?_)
    iterate 10 (refine⟨_,rfl,?_⟩;apply Exists.intro;refine⟨Or.inl ⟨by rfl,fun w' hw'=>?_⟩,?_⟩;(focus (obtain⟨e1,e2,e3⟩:=hw';first | (go_simp;done) | (go_simp;with_reducible rfl)));simp only [Act.put,List.setIfInBounds_toArray])
    refine Zc 10 (by kernel_rfl) rfl (fun K hK=>?_)
    go_simp
    obtain⟨wd,hwd⟩:∃wd,(w2.alloc (.cells #[.int .i64 m.1] 2)).drew=wd:=⟨_,rfl⟩
    have HLd:Hid (Below w2.heap.size w2 wd):=by show Below _ _ _;rw [<-hwd];exact ((Below.refl w2.heap.size w2).alloc (Nat.le_refl _) _).drew
    have HNd:Hid (wd.heap[w2.heap.size]? =some (.cells #[.int .i64 m.1] 2 (0,0))):=by show _=_;rw [<-hwd];exact heap_alloc_new w2 _
    have hsd:wd.heap.size=w2.heap.size+1:=by rw [<-hwd];simp
    rw [hwd]
    clear hwd
    refine hK.out _ _ (HS2.out _ (fun b hb=>HLd.out.block b (by omega))) (fun _=>?_)
    clear hK K
    have HMd:=Za (HMEM.out.below HLd.out)
    have HIRd:=Za (HIR.out.below HLd.out)
    refine Zc 11 (by kernel_rfl) rfl (fun K hK=>?_)
    refine Zi wd rfl (.tmp 67) (.tmp 70) 27 rfl B1 2 i0 _ 1 8 Tryz.underlying27 hi0 hx0 hx1 hx2 rfl (by omega) r1 (cn ls j).length rc ((cn ls j).map (Value.int .i64)) rfl HIRd.out (some ⟨w2.heap.size,0,none⟩) 1 1 [.int .i64 m.1] rfl (ZeI HNd.out) (by unfold maxLen;omega) (by omega) (by omega) wd.heap.size rfl ?_
    intro gg cc we howne hgrowe hate hlte
    have HIe:Hid (ZF B1 we gg cc (cn ls j++[m.1])):=Row.snoc howne
    have HGe:=Za hgrowe
    have hze:=hgrowe.size
    have HOVE:Hid (ZaP B1 (we.setCell ⟨gl,j,none⟩ (rwV (gg,cc,cn ls j++[m.1]))) gl cv (rs'.set j (gg,cc,cn ls j++[m.1]))):=HMd.out.over14 j hjr HIe.out (by rw [HR0.out];exact hgrowe) (by rw [HR0.out];rcases hate with e | e;exact Or.inl e;exact Or.inr (by omega))
    have hSe:∀b,(b=Sc\/b=gl\/b=w.heap.size+1)->we.heap[b]? =w2.heap[b]? :=fun b hb=>(hgrowe.block b (by omega) (by simp;omega)).trans (HLd.out.block b (by omega))
    have HSe:=Za (HS2.out _ hSe)
    have hce:=(hSe gl (Or.inr (Or.inl rfl)))
    have hcel:we.cell? ⟨gl,j,none⟩=some (.slice (some ⟨r1,0,none⟩) (cn ls j).length rc):=HSe.out.2.1
    have hfel:we.frozen? ⟨gl,j,none⟩=false:=(World.frozen?_of_block hce).trans hfj
    clear howne hgrowe
    refine hK.out _ _ HSe.out (fun _=>?_)
    clear hK K
    refine Zc 12 (by kernel_rfl) rfl (fun K hK=>?_)
    go_simp
    refine hK.out _ _ HSe.out (fun _=>?_)
    clear hK K
    refine wpAnyH_done (by kernel_rfl) ?_ _
    simp only [Exit.then]
    obtain⟨wf,hwf⟩:∃wf,we.setCell ⟨gl,j,none⟩ (.slice (some ⟨gg,0,none⟩) ((cn ls j).length+1) cc)=wf:=⟨_,rfl⟩
    have hrv:rwV (gg,cc,cn ls j++[m.1])=.slice (some ⟨gg,0,none⟩) ((cn ls j).length+1) cc:=by simp [rwV]
    rw [hrv,hwf] at HOVE
    have hff:∀b,b≠gl->wf.heap[b]? =we.heap[b]? :=fun b hb=>by rw [<-hwf];exact Below.heap_setCell we ⟨gl,j,none⟩ _ b (fun e=>hb e)
    have hzf:wf.heap.size=we.heap.size:=by rw [<-hwf];simp [World.setCell]
    have HNUf:Hid (ZaJ (rs'.set j (gg,cc,cn ls j++[m.1]))=Ze0 ms ls ((hs.map (fun h=>h.1)).take (i+1)) m.1):=by
     show _=_
     rw [<-(ZfX (ls:=ls) (ZJ HW.out) HND.out (by simpa using hlt) hj1 (HNX.out.trans HJM.out.symm) m.1).2,<-HNU'.out,ZaJ,ZaJ,List.map_set]
    have HKf:Hid (∀b,b≠gl->b≠r1->b<wr.heap.size->wf.heap[b]? =wr.heap[b]?):=fun b h1 h2 h3=>(hff b h1).trans ((HGe.out.block b (by omega) (by simp;exact h2)).trans ((HLd.out.block b (by omega)).trans (HL12.out.block b h3)))
    have HROf:Hid (Row w9.heap.size wf go2 co2 (Zaw acc x)):=HRO1.out.same (by
     have hne1:go2≠gl:=by rcases hg2 with e | e;rw [e];exact fun h=>hgl1.2.2 h.symm;have:=(Zc8 HLM.out (Or.inl rfl:ZfO (.slice (some ⟨gl,0,none⟩) rs.length cv) rs' gl)).2;omega
     have hne2:go2≠r1:=by rcases hg2 with e | e;rw [e];exact fun h=>hrb.2.2 h.symm;have:=(Zc8 HLM.out (Or.inr ⟨_,List.getElem_mem hjr,by rw [HR0.out]⟩:ZfO (.slice (some ⟨gl,0,none⟩) rs.length cv) rs' r1)).2;omega
     exact (hff go2 hne1).trans ((HGe.out.block go2 (by omega) (by simp;exact hne2)).trans ((HLd.out.block go2 (by omega)).trans (HL2.out.block go2 hgol.2))))
    have HLBf:Hid (∀b,ZfO (.slice (some ⟨gl,0,none⟩) rs.length cv) (rs'.set j (gg,cc,cn ls j++[m.1])) b->B1<=b/\(b<Sc\/wc.heap.size<=b)/\b≠go2):=fun b hb=>by
     have hold:ZfO (.slice (some ⟨gl,0,none⟩) rs.length cv) rs' b->B1<=b/\(b<Sc\/wc.heap.size<=b)/\b≠go2:=fun h=>by
      have h1:=HLBK.out b h
      have h2:=(Zc8 HLM.out h).2
      refine⟨h1.1,h1.2.1,?_⟩
      rcases hg2 with e | e
      · rw [e];exact h1.2.2
      · omega
     rcases hb with e | ⟨q,hq,rfl⟩
     · exact hold (Or.inl e)
     · rcases List.mem_or_eq_of_mem_set hq with h | h
       · exact hold (Or.inr ⟨q,h,rfl⟩)
       · rw [h]
         show B1<=gg/\(gg<Sc\/wc.heap.size<=gg)/\gg≠go2
         rcases hate with e | e
         · have hq1:q.1=r1:=by rw [h];exact e.symm
           have h3:=hold (Or.inr ⟨_,List.getElem_mem hjr,by rw [HR0.out];exact hq1⟩)
           rw [hq1] at h3
           rw [<-e];exact h3
         · have:=hgol.2;exact⟨by omega,by omega,by omega⟩
    have HOSf:Hid (wf.os=wc.os/\wf.tape=wc.tape/\wf.output=wc.output):=by
     have ho:=HOS.out
     refine⟨?_,?_,?_⟩
     · rw [<-hwf];exact HGe.out.os.trans (HLd.out.os.trans (HL12.out.os.trans ho.1))
     · rw [<-hwf];exact HGe.out.tape.trans (HLd.out.tape.trans (HL12.out.tape.trans ho.2.1))
     · rw [<-hwf];exact HGe.out.output.trans (HLd.out.output.trans (HL12.out.output.trans ho.2.2))
    have HWF:=Za hwf
    clear hSe hce hwf hff HS2 HSe
    go_wp2_with fail
    try rw [HWF.out]
    refine NoPanic.normal ?_
    go_wp2_with fail
    go_roundw
    case rel=>exact⟨i+1,go2,co2,rs'.set j (gg,cc,cn ls j++[m.1]),by omega,by go_num,by rw [HACC2.out],by rw [HACC2.out];exact HROf.out,by rw [List.length_set];exact HRL'.out,Or.inr ⟨gl,cv,by rw [List.length_set,HRL'.out],HOVE.out⟩,HNUf.out,HLBf.out,fun b h1 h2=>(HKf.out b (by omega) (by omega) (by omega)).trans (HFR.out b h1 h2),HOSf.out.1,HOSf.out.2.1,HOSf.out.2.2,by omega⟩
    case measure=>simp [intOf];omega
  · skip
    have e1:i=hs.length:=by omega
    have HTK:Hid ((hs.map (fun h=>h.1)).take i=hs.map (fun h=>h.1)):=by show _=_;rw [e1];exact List.take_of_length_le (by simp)
    have HNU8:Hid (ZaJ rs'=Ze0 ms ls (hs.map (fun h=>h.1)) m.1):=by have h:=HNU'.out;rw [HTK.out] at h;exact h
    have HAC8:Hid (acc=ZcI (hs.map (fun h=>h.1))):=by have h:=HACC.out;rw [HTK.out] at h;exact h.symm
    have hrn:rs'.length=ms.length:=by have h1:=HRL'.out;have h2:=HRL.out;have h3:=HLL.out;omega
    obtain⟨y0,y1,yf,-⟩:=Z6 ((HFR.out Sc (by omega) (by omega)).trans ((HL9c.out.block Sc (by omega)).trans HT9.out))
    have GA:=World.grownBy_alloc wr (.cells #[.slice (some ⟨go,0,none⟩) acc.length co] 27) none
    obtain⟨wd,hwd⟩:∃wd,wr.alloc (.cells #[.slice (some ⟨go,0,none⟩) acc.length co] 27)=wd:=⟨_,rfl⟩
    have hsd:wd.heap.size=wr.heap.size+1:=by rw [<-hwd];simp
    have HLd:Hid (Below wr.heap.size wr wd):=by show Below _ _ _;rw [<-hwd];exact (Below.refl _ _).alloc (Nat.le_refl _) _
    have HNd:Hid (wd.heap[wr.heap.size]? =some (.cells #[rwV (go,co,acc)] 27 (0,0))):=by show _=_;rw [<-hwd];exact heap_alloc_new wr _
    have HMd:=Za (Zcw HLM.out (w':=wd) (fun b hb=>HLd.out.block b (Zc8 HLM.out hb).2))
    have HROd:=Za (HRO.out.next HLd.out hgo'.2)
    have z0:=(HLd.out.cell (p:=⟨Sc,0,none⟩) (by show Sc<_;omega)).trans y0
    have z1:=(HLd.out.cell (p:=⟨Sc,1,none⟩) (by show Sc<_;omega)).trans y1
    have HOWN:Hid (wd.ownsRow B1 27 1 (.slice av rs.length cv) rs.length (rs'.map rwV)):=by have h:=HMd.out.owns;rw [HRL'.out] at h;exact h
    clear GA
    have hrb0:W.heap.size<=B1:=hB1
    obtain⟨v0,v1,vf,-⟩:=Z6 ((HLd.out.block (w.heap.size+1+1) (by omega)).trans ((HLW.out.block (w.heap.size+1+1) (by omega)).trans HT.out.2))
    have HWD:=Za hwd
    have yf1:=yf 1
    have zf1:wd.frozen? ⟨Sc,1,none⟩=false:=(World.frozen?_of_block (HLd.out.block Sc (by omega))).trans yf1
    have HVC:Hid (∀W':World,W'.heap[Sc]? =wd.heap[Sc]? ->W'.heap[w.heap.size+1+1]? =wd.heap[w.heap.size+1+1]? ->(W'.cell? ⟨Sc,0,none⟩=some (.slice (some ⟨g8,0,none⟩) (ms.length+1) c8)/\W'.cell? ⟨Sc,1,none⟩=some (.slice av rs.length cv)/\W'.frozen? ⟨Sc,1,none⟩=false)/\W'.cell? ⟨w.heap.size+1+1,0,none⟩=some (.slice none 0 0)/\W'.cell? ⟨w.heap.size+1+1,1,none⟩=some (.slice none 0 0)/\W'.frozen? ⟨w.heap.size+1+1,0,none⟩=false/\W'.frozen? ⟨w.heap.size+1+1,1,none⟩=false):=fun W' h1 h2=>⟨⟨(World.cell?_of_block h1).trans z0,(World.cell?_of_block h1).trans z1,(World.frozen?_of_block h1).trans zf1⟩,(World.cell?_of_block h2).trans v0,(World.cell?_of_block h2).trans v1,(World.frozen?_of_block h2).trans (vf 0),(World.frozen?_of_block h2).trans (vf 1)⟩
    have HNB:Hid (∀b,(Value.slice av rs.length cv).ownBlock=some b->ZfO (.slice av rs.length cv) rs' b):=fun b h=>Or.inl h
    clear hwd v0 v1 vf yf z0 z1 yf1 zf1
    go_wp2_with (at_builtin;rw [HWD.out];refine wpList_append_lies wd rfl (.tmp 74) (.tmp 76) 45 rfl B1 27 j0 _ 1 24 Tryz.underlying45 hj0 hy0 hy1 hy2 rfl (by omega) (.slice av rs.length cv) rs.length (rs'.map rwV) rfl HOWN.out ⟨wr.heap.size,0,none⟩ 1 1 [rwV (go,co,acc)] rfl rfl (Zc7 HNd.out).1 (Zc7 HNd.out).2 (by omega) (by have:=HRL.out;unfold maxLen;omega) (by have:=HRL.out;omega) (by omega) wd.heap.size rfl ?_;intro gF cF wF hownF hgrowF hatF hltF;have hbS:=hgrowF.block Sc (by omega) (fun e=>by have:=(HLBK.out Sc (HNB.out Sc e.symm)).2.1;omega);have hbR:=hgrowF.block (w.heap.size+1+1) (by omega) (fun e=>by have:=(HLBK.out _ (HNB.out _ e.symm)).1;omega);obtain⟨⟨a0,a1,af⟩,r0,r1,rf0,rf1⟩:=HVC.out wF hbS hbR;have HOF:=Za hownF;have HGF:=Za hgrowF;clear hbS hbR hownF hgrowF)
    refine bodyPost_ret (v:=.tuple #[.agg #[.slice (some ⟨g8,0,none⟩) (ms.length+1) c8,.slice (some ⟨gF,0,none⟩) (rs.length+1) cF],.bool true]) (by simp [results,Tryz.results197,go_sem,r0,r1]) rfl ?_
    right
    obtain⟨wz,hwz⟩:∃wz,((wF.setCell ⟨Sc,1,none⟩ (.slice (some ⟨gF,0,none⟩) (rs.length+1) cF)).setCell ⟨w.heap.size+1+1,0,none⟩ (.slice (some ⟨g8,0,none⟩) (ms.length+1) c8)).setCell ⟨w.heap.size+1+1,1,none⟩ (.slice (some ⟨gF,0,none⟩) (rs.length+1) cF)=wz:=⟨_,rfl⟩
    rw [hwz]
    have hfz:∀b,b≠Sc->b≠w.heap.size+1+1->wz.heap[b]? =wF.heap[b]? :=fun b h1 h2=>by
     rw [<-hwz,Below.heap_setCell _ ⟨w.heap.size+1+1,1,none⟩ _ b (fun e=>h2 e),Below.heap_setCell _ ⟨w.heap.size+1+1,0,none⟩ _ b (fun e=>h2 e),Below.heap_setCell _ ⟨Sc,1,none⟩ _ b (fun e=>h1 e)]
    have hzz:wz.heap.size=wF.heap.size:=by rw [<-hwz];simp [World.setCell]
    have hzF:=HGF.out.size
    have hIR:ZF B1 wd go co acc:=HROd.out.mono14 (by omega)
    have hLF:ZaP B1 wF gF cF (rs'++[(go,co,acc)]):=Zhc HMd.out (by rw [HRL'.out];simpa using HOF.out) HGF.out hatF hIR (fun h=>by
     have:=(HLBK.out go h).2.2
     exact this rfl)
    have hLz:ZaP B1 wz gF cF (rs'++[(go,co,acc)]):=hLF.same (fun b hb=>by
     have h1:=hLF.all b hb
     refine hfz b (fun e=>?_) (by omega)
     subst e
     rcases hb with hb | ⟨q,hq,hb⟩
     · rcases hatF with e | e
       · have:=(HLBK.out gF (Or.inl e)).2.1;omega
       · omega
     · rcases List.mem_append.1 hq with h | h
       · have:=(HLBK.out q.1 (Or.inr ⟨q,h,rfl⟩)).2.1;omega
       · simp at h
         rw [h] at hb
         have hb':b=go:=hb
         omega)
    have hfull:ZaJ (rs'++[(go,co,acc)])=Zcx ms ls (ZbS ms m.2 most) m.1:=by
     rw [ZaJ,List.map_append,<-ZaJ,HNU8.out,HIDS.out,<-Zld,HAC8.out]
     rfl
    have hblk:∀b,(b<B1\/Sc+1<=b/\b<w9.heap.size)->W.heap.size<=b->wz.heap[b]? =w9.heap[b]? :=fun b hb hb2=>by
     refine (hfz b (by omega) (by omega)).trans ((HGF.out.block b (by omega) (fun e=>?_)).trans ((HLd.out.block b (by omega)).trans ((HFR.out b (by omega) (by omega)).trans (HL9c.out.block b (by omega)))))
     have:=HLBK.out b (HNB.out b e.symm)
     omega
    have hDz:ZL W.heap.size wz g8 c8 (ds++[(m.1,g6,c6,m.2)]):=⟨Zaa HD9.out.1 (hblk g8 HBK.out.1 HD9.out.lt.1),fun d hd=>⟨(HD9.out.2.1 d hd).1.same (hblk d.2.1 (HBK.out.2 d hd) (HD9.out.2.1 d hd).1.lt2.1),(HD9.out.2.1 d hd).2⟩,HD9.out.2.2⟩
    have hAP:∀b,(b=g8\/∃d∈(ds++[(m.1,g6,c6,m.2)]),b=d.2.1)->b≠gF/\∀r∈rs'++[(go,co,acc)],b≠r.1:=fun b hb=>by
     have h1:b<B1\/Sc+1<=b/\b<w9.heap.size:=by
      rcases hb with rfl | ⟨d,hd,rfl⟩
      · exact HBK.out.1
      · exact HBK.out.2 d hd
     refine⟨fun e=>?_,fun r hr e=>?_⟩
     · subst e
       rcases hatF with e | e
       · have:=HLBK.out b (Or.inl e);omega
       · omega
     · rcases List.mem_append.1 hr with h | h
       · have:=HLBK.out r.1 (Or.inr ⟨r,h,rfl⟩);omega
       · simp at h
         rw [h] at e
         have e':b=go:=e
         omega
    have hrl:rs.length=ls.length:=HRL.out
    refine⟨by trivial,g8,c8,gF,cF,by rw [hrl],⟨_,_,_,_,by omega,by omega,hDz,HDM9.out,hLz,hfull,hAP⟩,?_⟩
    have hLF':Below w.heap.size w wF:=(Zd HB.out (Zd HLW.out HLd.out)).grown HGF.out (by omega) (fun q hq=>by have:=(HLBK.out q (HNB.out q hq)).1;omega)
    rw [<-hwz]
    exact ((hLF'.setCell (by show w.heap.size<=Sc;omega) _).setCell (by show w.heap.size<=w.heap.size+1+1;omega) _).setCell (by show w.heap.size<=w.heap.size+1+1;omega) _
def Ze3(w:World)(b:Nat):Prop:=b<w.heap.size/\∀j,j<8->w.cell? ⟨b,j,none⟩=some (.slice none 0 0)
theorem Ze3.next{w w':World}{b:Nat}(h:Ze3 w b)(L:Below w.heap.size w w'):Ze3 w' b:=
 ⟨Nat.lt_of_lt_of_le h.1 L.size,fun j hj=>(L.cell (p:=⟨b,j,none⟩) h.1).trans (h.2 j hj)⟩
def ZdK:List Wb:=[([],[]),([],[]),([],[]),([],[])]
theorem Zgw(i:Nat):Zl ZdK i=([],[]):=by
 rcases i with _ | _ | _ | _ | i <;> first | rfl | simp [madeCells] | kernel_rfl
theorem Zio:ZaB ZdK:=⟨by decide,fun i=>by rw [Zgw];exact⟨⟨by decide,fun j=>by simp [mat]⟩,by decide,fun j=>by simp [cn]⟩⟩
theorem Ze3.view{w:World}{b:Nat}(h:Ze3 w b):Zz true w (some ⟨b,0,none⟩) ZdK:=
 Or.inr ⟨b,0,rfl,h.1,fun i hi=>by
  have hi4:i<4:=hi
  rw [Zgw]
  exact⟨none,0,none,0,h.2 _ (by omega),h.2 _ (by omega),Or.inl rfl,Or.inl rfl,fun _=>⟨Nat.le_refl _,Nat.le_refl _⟩⟩⟩
theorem ZjV(w:World):
 Calls Tryz.prog 24 #[] w fun e w'=>∃b,e=.returned (.agg #[.int .i64 1,.slice (some ⟨b,0,none⟩) 4 4])/\Ze3 w' b/\Below w.heap.size w w':=by
 have hmk:∀w:World,(Instr.makeSlice 24 (.int .i64 4) (.int .i64 4)).run Tryz.prog w=.ok (.slice (some ⟨w.heap.size,0,none⟩) 4 4) (w.alloc (.cells (madeCells #[.slice none 0 0,.slice none 0 0] 8) 47)):=fun w=>Zak (P:=Tryz.prog) 24 47 (.agg #[.slice none 0 0,.slice none 0 0]) 2 48 Tryz.underlying24 Tryz.info47 .i64 .i64 4 (by omega) (by omega) w
 go_enter Tryz.func24,Tryz.ntmps24
 go_wp2_with fail
 refine bodyPost_ret (v:=.agg #[.int .i64 1,.slice (some ⟨w.heap.size+1,0,none⟩) 4 4]) (by simp [results,Tryz.results24,go_sem]) rfl ?_
 refine⟨w.heap.size+1,rfl,⟨by simp,fun j hj=>?_⟩,?_⟩
 · rw [World.cell?_alloc_at _ _ _ _ (by simp)]
   rcases (show j=0\/j=1\/j=2\/j=3\/j=4\/j=5\/j=6\/j=7 by omega) with rfl | rfl | rfl | rfl | rfl | rfl | rfl | rfl <;> first | rfl | simp [madeCells] | kernel_rfl
 · exact ((Below.refl w.heap.size w).alloc (Nat.le_refl _) _).alloc (by simp) _
theorem ZjW(w:World):
 Calls Tryz.prog 23 #[] w fun e w'=>∃b,e=.returned (.agg #[.int .i64 1,.slice (some ⟨b,0,none⟩) 4 4])/\Ze3 w' b/\Below w.heap.size w w':=by
 have hmk:∀w:World,(Instr.makeSlice 24 (.int .i64 4) (.int .i64 4)).run Tryz.prog w=.ok (.slice (some ⟨w.heap.size,0,none⟩) 4 4) (w.alloc (.cells (madeCells #[.slice none 0 0,.slice none 0 0] 8) 47)):=fun w=>Zak (P:=Tryz.prog) 24 47 (.agg #[.slice none 0 0,.slice none 0 0]) 2 48 Tryz.underlying24 Tryz.info47 .i64 .i64 4 (by omega) (by omega) w
 go_enter Tryz.func23,Tryz.ntmps23
 go_wp2_with fail
 refine bodyPost_ret (v:=.agg #[.int .i64 1,.slice (some ⟨w.heap.size+1,0,none⟩) 4 4]) (by simp [results,Tryz.results23,go_sem]) rfl ?_
 refine⟨w.heap.size+1,rfl,⟨by simp,fun j hj=>?_⟩,?_⟩
 · rw [World.cell?_alloc_at _ _ _ _ (by simp)]
   rcases (show j=0\/j=1\/j=2\/j=3\/j=4\/j=5\/j=6\/j=7 by omega) with rfl | rfl | rfl | rfl | rfl | rfl | rfl | rfl <;> first | rfl | simp [madeCells] | kernel_rfl
 · exact ((Below.refl w.heap.size w).alloc (Nat.le_refl _) _).alloc (by simp) _
def WSt(base:Nat)(w:World)(am:Option Addr)(cm:Nat)(al:Option Addr)(cl:Nat)(ms:List Mk)(ls:List (List Int)):Prop:=
 (am=none/\cm=0/\al=none/\cl=0/\ms=[]/\ls=[])\/∃gm gl,am=some ⟨gm,0,none⟩/\al=some ⟨gl,0,none⟩/\ZbQ base w gm cm gl cl ms ls
theorem WSt.views{base:Nat}{w:World}{am al:Option Addr}{cm cl:Nat}{ms:List Mk}{ls:List (List Int)}(h:WSt base w am cm al cl ms ls):Zq w am ms/\Z8 w al ls:=by
 rcases h with ⟨-,-,-,-,rfl,rfl⟩ | ⟨gm,gl,rfl,rfl,h⟩
 · exact⟨Or.inl rfl,Or.inl rfl⟩
 · exact h.views
theorem WSt.same{base:Nat}{w w':World}{am al:Option Addr}{cm cl:Nat}{ms:List Mk}{ls:List (List Int)}(h:WSt base w am cm al cl ms ls)(e:∀b,base<=b->b<w.heap.size->w'.heap[b]? =w.heap[b]?):WSt base w' am cm al cl ms ls:=by
 rcases h with h | ⟨gm,gl,e1,e2,h⟩
 · exact Or.inl h
 · refine Or.inr ⟨gm,gl,e1,e2,?_⟩
   obtain⟨B,ds,B',rs,hb,hb',h1,h2,h3,h4,h5⟩:=h
   refine⟨B,ds,B',rs,hb,hb',⟨Zaa h1.1 (e gm (by have:=h1.lt;omega) h1.lt.2),fun d hd=>⟨(h1.2.1 d hd).1.same (e d.2.1 (by have:=(h1.2.1 d hd).1.lt2;omega) (h1.2.1 d hd).1.lt2.2),(h1.2.1 d hd).2⟩,h1.2.2⟩,h2,h3.same (fun b hbb=>e b (by have:=h3.all b hbb;omega) (h3.all b hbb).2),h4,h5⟩
theorem WSt.mono{base base':Nat}{w:World}{am al:Option Addr}{cm cl:Nat}{ms:List Mk}{ls:List (List Int)}(h:WSt base w am cm al cl ms ls)(hb:base'<=base):WSt base' w am cm al cl ms ls:=by
 rcases h with h | ⟨gm,gl,e1,e2,B,ds,B',rs,h1,h2,h3⟩
 · exact Or.inl h
 · exact Or.inr ⟨gm,gl,e1,e2,B,ds,B',rs,by omega,by omega,h3⟩
theorem Zw{w w':World}(h:Below w.heap.size w w')(r:Option Nat):w.grownBy w' r:=⟨h.os,h.tape,h.output,h.size,fun k hk _=>h.block k hk⟩
theorem Cur.kept14{w w':World}{q:Nat}{ao:Option Addr}{n cap:Nat}(h:Cur w q ao n cap)(e:w'.heap[q]? =w.heap[q]?):Cur w' q ao n cap:=by
 obtain⟨i,x,hi,hc⟩:=h
 exact⟨i,x,hi,e.trans hc⟩
theorem ZcL{w w':World}{r:Option Nat}(h:w.drew.grownBy w' r):w.grownBy w' r:=⟨h.os,h.tape,h.output,h.size,h.block⟩
structure Zjl(w wr:World)(q:Nat)(ao:Option Addr)(n cap B0 B1 g c:Nat)(ds:List Dm)(k:Nat)(am:Option Addr)(cm:Nat)(al:Option Addr)(cl:Nat)(ms:List Mk)(ls:List (List Int)):Prop where
 cur:Cur wr q ao n cap
 gr:w.grownBy wr (some q)
 r0:Two wr w.heap.size (.slice none 0 0) (.slice none 0 0) 47
 a0:Two wr (w.heap.size+1) (.slice am ms.length cm) (.slice al ls.length cl) 47
 dr:ZL B0 wr g c ds
 web:WSt B1 wr am cm al cl ms ls
 ok:Zab ms ls=true
 len:ms.length<=k
 size:B1<=wr.heap.size
theorem cWeb(q:Nat)(ao:Option Addr)(n cap:Nat)(w:World)(hc:Cur w q ao n cap)(hv:ZW w ao n)(hn:n<=4096):
 Calls Tryz.prog 235 #[.pointer (some ⟨q,0,none⟩)] w fun e w'=>(∃am cm al cl ms ls,e=.returned (.agg #[.slice am ms.length cm,.slice al ls.length cl])/\WSt w.heap.size w' am cm al cl ms ls/\Zab ms ls=true/\ms.length<=9)/\Cur w' q ao n cap/\w.grownBy w' (some q):=by
 have hq:=hc.lt
 obtain⟨W,hW⟩:∃W,(w.alloc (.cells #[.slice none 0 0,.slice none 0 0] 47)).alloc (.cells #[.slice none 0 0,.slice none 0 0] 47)=W:=⟨_,rfl⟩
 have hWs:W.heap.size=w.heap.size+2:=by rw [<-hW];simp
 have gW:w.grownBy W (some q):=by rw [<-hW];exact Zh (World.grownBy_alloc w _ (some q)) (World.grownBy_alloc _ _ (some q))
 have cW:Cur W q ao n cap:=hc.kept14 (by rw [<-hW,Below.heap_alloc _ _ _ (by simp;omega),Below.heap_alloc _ _ _ hq])
 have vW:ZW W ao n:=hv.grown hc gW
 have tR:Two W w.heap.size (.slice none 0 0) (.slice none 0 0) 47:=by
  rw [<-hW]
  exact (Below.heap_alloc _ _ _ (by simp)).trans (heap_alloc_new w _)
 have tA:Two W (w.heap.size+1) (.slice none 0 0) (.slice none 0 0) 47:=by
  have h:=heap_alloc_new (w.alloc (.cells #[.slice none 0 0,.slice none 0 0] 47)) (.cells #[.slice none 0 0,.slice none 0 0] 47)
  have e:(w.alloc (.cells #[.slice none 0 0,.slice none 0 0] 47)).heap.size=w.heap.size+1:=by simp
  rw [e,hW] at h
  exact h
 have HMD:=Za (Zid q ao n cap 9 W cW vW hn (by omega) (by omega))
 have HWW:=Za hW
 have HST:=Za (And.intro gW (And.intro tR tA))
 have HCw:=Za hc
 have HVw:=Za hv
 clear gW tR tA cW vW hW hc hv
 go_enter Tryz.func235,Tryz.ntmps235
 go_wp2_with fail
 rw [HWW.out]
 refine HMD.out.mono ?_
 rintro e w1 ⟨⟨g,c,ds,rfl,hnew⟩,c1,g1⟩
 have g01:=Zh HST.out.1 g1
 have hs1:=g1.size
 have HD0:Hid (Zjl w w1 q ao n cap (w.heap.size+2) w1.heap.size g c ds 0 none 0 none 0 [] []):=by
  refine⟨c1,g01,?_,?_,?_,Or.inl ⟨rfl,rfl,rfl,rfl,rfl,rfl⟩,by simp [Zab,Zn],Nat.le_refl _,Nat.le_refl _⟩
  · exact (g1.block _ (by omega) (by simp;omega)).trans HST.out.2.1
  · exact (g1.block _ (by omega) (by simp;omega)).trans HST.out.2.2
  · rw [<-hWs];exact hnew.2.1
 have hdl:ds.length<=9:=by have:=hnew.1;omega
 have HGD:=Za hnew.2.2
 have HV0:Hid (∀wr,w.grownBy wr (some q)->ZW wr ao n):=fun wr hg=>HVw.out.grown HCw.out hg
 clear hnew c1 g1 g01 HMD HWW HST
 go_wp2_with fail
 go_loopw [5] (fun i wr=>∃(k:Nat) (am:Option Addr) (cm:Nat) (al:Option Addr) (cl:Nat) (ms:List Mk) (ls:List (List Int)),k<=ds.length/\i=.int .i64 k/\Zjl w wr q ao n cap (w.heap.size+2) w1.heap.size g c ds k am cm al cl ms ls) (fun i _=>ds.length-(intOf i).toNat)
 case atStart=>exact⟨0,none,0,none,0,[],[],Nat.zero_le _,rfl,HD0.out⟩
 case round=>
  obtain⟨k,am,cm,al,cl,ms,ls,hk,rfl,hdw⟩:=hrel
  have hqr:q<wr.heap.size:=by have:=hdw.gr.size;omega
  by_cases hlt:k<ds.length
  · obtain⟨d0,d1⟩:=hdw.dr.cells k hlt
    obtain⟨hrow,hne⟩:=hdw.dr.2.1 _ (Za4 ds k hlt)
    have hgl:=hdw.dr.lt
    have a0:=hdw.a0.c0
    have a1:=hdw.a0.c1
    have hk0:(0:Int)<=(k:Int):=Int.natCast_nonneg _
    have hk1:(k:Int)<(ds.length:Int):=by omega
    have HB:=Za (fun W' hc' hv'=>ZaV q ao n cap 3 W' hc' hv' hn (by omega) (by omega))
    have HDW:=Za hdw
    have HVR:Hid (∀W',wr.grownBy W' (some q)->ZW W' ao n):=fun W' hg'=>HV0.out W' (Zh HDW.out.gr hg')
    have HCR:=Za hdw.cur
    have hszr:=hdw.size
    have hml:(Zk ds k).2.2.2.length<=1048576:=by
     obtain⟨width,id,hw1,hw3,-,hgd⟩:=HGD.out
     have:=(hgd.1 _ (Za4 ds k hlt)).2.2.1
     omega
    have hAl:w.heap.size+1<wr.heap.size:=hdw.a0.lt
    have HLK:Hid (∀(W':World) (most:Int),wr.grownBy W' (some q)->Calls Tryz.prog 197 #[.agg #[.slice am ms.length cm,.slice al ls.length cl],.agg #[.int .i64 (Zk ds k).1,.slice (some ⟨(Zk ds k).2.1,0,none⟩) (Zk ds k).2.2.2.length (Zk ds k).2.2.1],.int .i64 most] W' fun e w'=>
     (e=.returned (.tuple #[.agg #[.slice none 0 0,.slice none 0 0],.bool false])/\Below W'.heap.size W' w')\/
     (∃gm cm' gl cl' ms' ls',e=.returned (.tuple #[.agg #[.slice (some ⟨gm,0,none⟩) ms'.length cm',.slice (some ⟨gl,0,none⟩) ls'.length cl'],.bool true])/\ZbQ W'.heap.size w' gm cm' gl cl' ms' ls'/\Zab ms' ls'=true/\ms'.length<=k+1/\Below W'.heap.size W' w')):=fun W' most hg'=>by
     have hweb:=HDW.out.web.same (w':=W') (fun b hb hb2=>hg'.block b hb2 (by simp;omega))
     have hvw:Zs W' (some ⟨(Zk ds k).2.1,0,none⟩) (Zk ds k).2.2.2:=by
      have hl2:=hrow.lt2
      have h5:Row (w.heap.size+2) W' (Zk ds k).2.1 (Zk ds k).2.2.1 (Zk ds k).2.2.2:=World.ownsRow.kept hrow hg' (Or.inr (by simp [Value.ownBlock];omega))
      exact h5.view
     refine (Zlb am al _ cm cl _ ms ls ((Zk ds k).1,(Zk ds k).2.2.2) most W' hweb.views.1 hweb.views.2 hvw hml HDW.out.ok).mono ?_
     rintro e w' (⟨-,he,hL⟩ | ⟨hmb,gm,cm',gl,cl',he,ho,hL⟩)
     · exact Or.inl ⟨he,hL⟩
     · have hln:(Zcx ms ls (ZbS ms (Zk ds k).2.2.2 most) (Zk ds k).1).length=ls.length+1:=by
        rw [ZcM,Za5 HDW.out.ok]
       refine Or.inr ⟨gm,cm',gl,cl',ms++[((Zk ds k).1,(Zk ds k).2.2.2)],_,?_,ho,Zdq HDW.out.ok hmb (Zb4 (ZJ HDW.out.ok)),by have:=HDW.out.len;simp;omega,hL⟩
       rw [he,hln]
       simp
    have HS:Hid (∀W':World,wr.grownBy W' (some q)->W'.cell? ⟨w.heap.size+1,0,none⟩=some (.slice am ms.length cm)/\W'.cell? ⟨w.heap.size+1,1,none⟩=some (.slice al ls.length cl)/\W'.cell? ⟨g,k*2,none⟩=some (.int .i64 (Zk ds k).1)/\W'.cell? ⟨g,k*2+1,none⟩=some (.slice (some ⟨(Zk ds k).2.1,0,none⟩) (Zk ds k).2.2.2.length (Zk ds k).2.2.1)):=fun W' hg'=>
     ⟨hg'.cell a0 (by simp;omega),hg'.cell a1 (by simp;omega),hg'.cell d0 (by simp;omega),hg'.cell d1 (by simp;omega)⟩
    have HEND:Hid (∀(wz:World) (am' al':Option Addr) (cm' cl':Nat) (ms':List Mk) (ls':List (List Int)),wr.grownBy wz (some q)->Cur wz q ao n cap->WSt wr.heap.size wz am' cm' al' cl' ms' ls'->Zab ms' ls'=true->ms'.length<=k+1->Zjl w ((wz.setCell ⟨w.heap.size+1,0,none⟩ (.slice am' ms'.length cm')).setCell ⟨w.heap.size+1,1,none⟩ (.slice al' ls'.length cl')) q ao n cap (w.heap.size+2) w1.heap.size g c ds (k+1) am' cm' al' cl' ms' ls'):=by
     intro wz am' al' cm' cl' ms' ls' hg' hcz hweb' hok' hlen'
     have hzs:=hg'.size
     have hA:Two wz (w.heap.size+1) (.slice am ms.length cm) (.slice al ls.length cl) 47:=(hg'.block _ hAl (by simp;omega)).trans HDW.out.a0
     obtain⟨wy,hwy⟩:∃wy,wy=(wz.setCell ⟨w.heap.size+1,0,none⟩ (.slice am' ms'.length cm')).setCell ⟨w.heap.size+1,1,none⟩ (.slice al' ls'.length cl'):=⟨_,rfl⟩
     have hoth:∀b,b≠w.heap.size+1->wy.heap[b]? =wz.heap[b]? :=fun b hb=>by
      rw [hwy,Below.heap_setCell _ ⟨w.heap.size+1,1,none⟩ _ b hb,Below.heap_setCell _ ⟨w.heap.size+1,0,none⟩ _ b hb]
     have hys:wy.heap.size=wz.heap.size:=by rw [hwy,Zb,Zb]
     have hold:∀b,b<wr.heap.size->b≠q->b≠w.heap.size+1->wy.heap[b]? =wr.heap[b]? :=fun b h1 h2 h3=>(hoth b h3).trans (hg'.block b h1 (by simp;exact h2))
     have hgz:=Zh HDW.out.gr hg'
     rw [<-hwy]
     refine⟨hcz.kept14 (hoth q (by omega)),⟨?_,?_,?_,by rw [hys];exact hgz.size,fun b hb hbq=>(hoth b (by omega)).trans (hgz.block b hb hbq)⟩,(hold _ (by omega) (by omega) (by omega)).trans HDW.out.r0,?_,?_,?_,hok',hlen',by omega⟩
     · rw [hwy];exact hgz.os
     · rw [hwy];exact hgz.tape
     · rw [hwy];exact hgz.output
     · rw [hwy];exact (hA.set0 _).set1 _
     · have h1:=HDW.out.dr
       exact⟨Zaa h1.1 (hold g h1.lt.2 (by omega) (by omega)),fun d hd=>⟨(h1.2.1 d hd).1.same (hold d.2.1 (h1.2.1 d hd).1.lt2.2 (by have:=(h1.2.1 d hd).1.lt2;omega) (by have:=(h1.2.1 d hd).1.lt2;omega)),(h1.2.1 d hd).2⟩,h1.2.2⟩
     · exact (hweb'.mono hszr).same (fun b hb _=>hoth b (by omega))
    have HOLD:Hid (∀(wz:World),wr.grownBy wz (some q)->Cur wz q ao n cap->Zjl w wz q ao n cap (w.heap.size+2) w1.heap.size g c ds (k+1) am cm al cl ms ls):=by
     intro wz hg' hcz
     have hzs:=hg'.size
     have hold:∀b,b<wr.heap.size->b≠q->wz.heap[b]? =wr.heap[b]? :=fun b h1 h2=>hg'.block b h1 (by simp;exact h2)
     refine⟨hcz,Zh HDW.out.gr hg',(hold _ (by omega) (by omega)).trans HDW.out.r0,(hold _ (by omega) (by omega)).trans HDW.out.a0,?_,HDW.out.web.same (fun b hb hb2=>hold b hb2 (by omega)),HDW.out.ok,by have:=HDW.out.len;omega,by omega⟩
     have h1:=HDW.out.dr
     exact⟨Zaa h1.1 (hold g h1.lt.2 (by omega)),fun d hd=>⟨(h1.2.1 d hd).1.same (hold d.2.1 (h1.2.1 d hd).1.lt2.2 (by have:=(h1.2.1 d hd).1.lt2;omega)),(h1.2.1 d hd).2⟩,h1.2.2⟩
    have HAF:Hid (∀(wz:World),wr.grownBy wz (some q)->wz.frozen? ⟨w.heap.size+1,0,none⟩=false/\wz.frozen? ⟨w.heap.size+1,1,none⟩=false):=fun wz hg'=>by
     have hA:Two wz (w.heap.size+1) (.slice am ms.length cm) (.slice al ls.length cl) 47:=(hg'.block _ hAl (by simp;omega)).trans HDW.out.a0
     exact⟨hA.frozen 0,hA.frozen 1⟩
    clear hrow hne hdw
    generalize Zk ds k=dk at *
    go_wp2_with fail
    refine Zt (S:=fun w'=>w'.cell? ⟨w.heap.size+1,0,none⟩=some (.slice am ms.length cm)/\w'.cell? ⟨w.heap.size+1,1,none⟩=some (.slice al ls.length cl)/\w'.cell? ⟨g,k*2,none⟩=some (.int .i64 dk.1)/\w'.cell? ⟨g,k*2+1,none⟩=some (.slice (some ⟨dk.2.1,0,none⟩) dk.2.2.2.length dk.2.2.1)) (fuel:=9) [0,1,2,3,4,5] (by kernel_rfl) (by kernel_rfl) (by kernel_rfl) (by kernel_rfl) ⟨a0,a1,d0,d1⟩ (fun _=>?_)
    iterate 6 (refine⟨_,rfl,?_⟩;apply Exists.intro;refine⟨Or.inl ⟨by rfl,fun w' hw'=>?_⟩,?_⟩;(focus (obtain⟨s1,s2,s3,s4⟩:=hw';first | (go_simp;done) | (go_simp;with_reducible rfl)));simp only [Act.put,List.getElem_toArray,List.getElem_cons_succ,List.getElem_cons_zero,List.setIfInBounds_toArray,List.set_cons_zero,List.set_cons_succ])
    refine ZD 6 12 (by kernel_rfl) rfl rfl (fun K hK=>?_) (fun K hK=>?_)
    · go_simp
      refine (HB.out _ HCR.out.drew (HVR.out wr (ZI _ _))).mono ?_
      rintro e w2 ⟨⟨y,y0,y1,rfl⟩,c2,g2'⟩
      have g2:wr.grownBy w2 (some q):=ZcL g2'
      have hx:IntKind.i64.wrap (1+y)=1+y:=by rw [IntWalk.i64_in _ ⟨by omega,by omega⟩]
      refine hK.out _ _ (HS.out w2 g2) (fun hS2=>?_)
      clear hK K
      refine Zo 7 [7] (by kernel_rfl) (by kernel_rfl) (by kernel_rfl) hS2 ?_
      iterate 1
       refine⟨_,rfl,?_⟩
       apply Exists.intro
       refine⟨Or.inl ⟨by rfl,fun w' hw'=>?_⟩,?_⟩
       · first
         | (go_simp;done)
         | (go_simp;with_reducible rfl)
       simp only [Act.put,List.getElem_toArray,List.getElem_cons_succ,List.getElem_cons_zero,List.setIfInBounds_toArray,List.set_cons_zero,List.set_cons_succ]
      refine ZD 8 12 (by kernel_rfl) rfl rfl (fun K hK=>?_) (fun K hK=>?_)
      · go_simp
        refine (HLK.out w2 _ g2).mono ?_
        rintro e w3 (⟨rfl,L3⟩ | ⟨gm,cm',gl,cl',ms',ls',rfl,ho,hok',hlen',L3⟩)
        · have g3:wr.grownBy w3 (some q):=Zh g2 (Zw L3 _)
          have c3:Cur w3 q ao n cap:=c2.kept14 (L3.block q (by have:=g2.size;omega))
          refine hK.out _ _ (HS.out w3 g3) (fun hS3=>?_)
          clear hK K
          refine Zo 3 [9,10,11] (by kernel_rfl) (by kernel_rfl) (by kernel_rfl) hS3 ?_
          iterate 3
           refine⟨_,rfl,?_⟩
           apply Exists.intro
           refine⟨Or.inl ⟨by rfl,fun w' hw'=>?_⟩,?_⟩
           · first
             | (go_simp;done)
             | (go_simp;with_reducible rfl)
           simp only [Act.put,List.getElem_toArray,List.getElem_cons_succ,List.getElem_cons_zero,List.setIfInBounds_toArray,List.set_cons_zero,List.set_cons_succ]
          refine Zc 12 (by kernel_rfl) rfl (fun K hK=>?_)
          go_simp
          refine hK.out _ _ (HS.out _ (Zh g3 (World.grownBy_alloc w3 _ (some q)))) (fun hS4=>?_)
          clear hK K
          refine Zc 13 (by kernel_rfl) rfl (fun K hK=>?_)
          go_simp
          have HGZ:Hid (wr.grownBy (w3.alloc (.cells #[.slice none 0 0,.slice none 0 0] 47)) (some q)):=Zh g3 (World.grownBy_alloc w3 _ (some q))
          have HCZ:Hid (Cur (w3.alloc (.cells #[.slice none 0 0,.slice none 0 0] 47)) q ao n cap):=c3.alloc _
          refine hK.out _ _ (HS.out _ HGZ.out) (fun hS5=>?_)
          clear hK K
          refine ZB [14] rfl (by kernel_rfl) (by kernel_rfl) (by kernel_rfl) hS5 ?_
          iterate 1
           refine⟨_,rfl,?_⟩
           apply Exists.intro
           refine⟨Or.inl ⟨by rfl,fun w' hw'=>?_⟩,?_⟩
           · first
             | (go_simp;done)
             | (go_simp;with_reducible rfl)
           simp only [Act.put,List.getElem_toArray,List.getElem_cons_succ,List.getElem_cons_zero,List.setIfInBounds_toArray,List.set_cons_zero,List.set_cons_succ]
          refine NoPanic.normal (NoPanic.normal ?_)
          go_wp2_with fail
          go_roundw
          case rel=>exact⟨k+1,am,cm,al,cl,ms,ls,by omega,by go_num,HOLD.out _ HGZ.out HCZ.out⟩
          case measure=>simp [intOf];omega
        · have g3:wr.grownBy w3 (some q):=Zh g2 (Zw L3 _)
          have c3:Cur w3 q ao n cap:=c2.kept14 (L3.block q (by have:=g2.size;omega))
          refine hK.out _ _ (HS.out w3 g3) (fun hS3=>?_)
          clear hK K
          have HOK':=Za hok'
          have HLN':=Za hlen'
          refine Zo 3 [9,10,11] (by kernel_rfl) (by kernel_rfl) (by kernel_rfl) hS3 ?_
          iterate 3
           refine⟨_,rfl,?_⟩
           apply Exists.intro
           refine⟨Or.inl ⟨by rfl,fun w' hw'=>?_⟩,?_⟩
           · first
             | (go_simp;done)
             | (go_simp;with_reducible rfl)
           simp only [Act.put,List.getElem_toArray,List.getElem_cons_succ,List.getElem_cons_zero,List.setIfInBounds_toArray,List.set_cons_zero,List.set_cons_succ]
          refine Zc 12 (by kernel_rfl) rfl (fun K hK=>?_)
          go_simp
          refine hK.out _ _ (HS.out _ (Zh g3 (World.grownBy_alloc w3 _ (some q)))) (fun hS4=>?_)
          clear hK K
          refine Zc 13 (by kernel_rfl) rfl (fun K hK=>?_)
          go_simp
          have HGZ:Hid (wr.grownBy (w3.alloc (.cells #[.slice (some ⟨gm,0,none⟩) ms'.length cm',.slice (some ⟨gl,0,none⟩) ls'.length cl'] 47)) (some q)):=Zh g3 (World.grownBy_alloc w3 _ (some q))
          have HCZ:Hid (Cur (w3.alloc (.cells #[.slice (some ⟨gm,0,none⟩) ms'.length cm',.slice (some ⟨gl,0,none⟩) ls'.length cl'] 47)) q ao n cap):=c3.alloc _
          have HWO:Hid (ZbQ wr.heap.size (w3.alloc (.cells #[.slice (some ⟨gm,0,none⟩) ms'.length cm',.slice (some ⟨gl,0,none⟩) ls'.length cl'] 47)) gm cm' gl cl' ms' ls'):=by
           have h6:WSt wr.heap.size w3 (some ⟨gm,0,none⟩) cm' (some ⟨gl,0,none⟩) cl' ms' ls':=WSt.mono (Or.inr ⟨gm,gl,rfl,rfl,ho⟩) g2.size
           have h7:=h6.same (w':=w3.alloc (.cells #[.slice (some ⟨gm,0,none⟩) ms'.length cm',.slice (some ⟨gl,0,none⟩) ls'.length cl'] 47)) (fun b hb hb2=>Below.heap_alloc _ _ _ hb2)
           rcases h7 with ⟨h7,-⟩ | ⟨gm2,gl2,e1,e2,h7⟩
           · cases h7
           · injection e1 with e1;injection e1 with e1;injection e2 with e2;injection e2 with e2
             subst e1 e2
             exact h7
          refine hK.out _ _ (HS.out _ HGZ.out) (fun hS5=>?_)
          clear hK K
          refine ZB [14] rfl (by kernel_rfl) (by kernel_rfl) (by kernel_rfl) hS5 ?_
          iterate 1
           refine⟨_,rfl,?_⟩
           apply Exists.intro
           refine⟨Or.inl ⟨by rfl,fun w' hw'=>?_⟩,?_⟩
           · first
             | (go_simp;done)
             | (go_simp;with_reducible rfl)
           simp only [Act.put,List.getElem_toArray,List.getElem_cons_succ,List.getElem_cons_zero,List.setIfInBounds_toArray,List.set_cons_zero,List.set_cons_succ]
          refine NoPanic.normal (NoPanic.normal ?_)
          obtain⟨t0,t1,-,-⟩:=HS.out _ HGZ.out
          obtain⟨f0,f1⟩:=HAF.out _ HGZ.out
          go_wp2_with fail
          go_roundw
          case rel=>exact⟨k+1,some ⟨gm,0,none⟩,cm',some ⟨gl,0,none⟩,cl',ms',ls',by omega,by go_num,HEND.out _ _ _ _ _ ms' ls' HGZ.out HCZ.out (Or.inr ⟨gm,gl,rfl,rfl,HWO.out⟩) HOK'.out HLN'.out⟩
          case measure=>simp [intOf];omega
      · go_simp
        obtain⟨W2,hW2⟩:∃W,w2.alloc (.cells #[.slice none 0 0,.slice none 0 0] 47)=W:=⟨_,rfl⟩
        have gW2:wr.grownBy W2 (some q):=by rw [<-hW2];exact Zh g2 (World.grownBy_alloc w2 _ (some q))
        have cW2:Cur W2 q ao n cap:=by rw [<-hW2];exact c2.alloc _
        have hXt:Two W2 w2.heap.size (.slice none 0 0) (.slice none 0 0) 47:=by rw [<-hW2];exact Two.new w2 _ _ _
        have hXl:w2.heap.size<W2.heap.size:=hXt.lt
        have hXr:wr.heap.size<=w2.heap.size:=g2.size
        rw [hW2]
        clear hW2
        refine hK.out _ _ (HS.out _ gW2) (fun _=>?_)
        clear hK K
        refine Zc 8 (by kernel_rfl) rfl (fun K hK=>?_)
        go_simp
        refine (HLK.out W2 _ gW2).mono ?_
        rintro e w3 (⟨rfl,L3⟩ | ⟨gm,cm',gl,cl',ms',ls',rfl,ho,hok',hlen',L3⟩)
        · have g3:wr.grownBy w3 (some q):=Zh gW2 (Zw L3 _)
          have c3:Cur w3 q ao n cap:=cW2.kept14 (L3.block q (by have:=gW2.size;omega))
          refine hK.out _ _ (HS.out w3 g3) (fun hS3=>?_)
          clear hK K
          refine Zo 2 [9,10,11] (by kernel_rfl) (by kernel_rfl) (by kernel_rfl) hS3 ?_
          iterate 3
           refine⟨_,rfl,?_⟩
           apply Exists.intro
           refine⟨Or.inl ⟨by rfl,fun w' hw'=>?_⟩,?_⟩
           · first
             | (go_simp;done)
             | (go_simp;with_reducible rfl)
           simp only [Act.put,List.getElem_toArray,List.getElem_cons_succ,List.getElem_cons_zero,List.setIfInBounds_toArray,List.set_cons_zero,List.set_cons_succ]
          have x3:Two w3 w2.heap.size (.slice none 0 0) (.slice none 0 0) 47:=(L3.block _ hXl).trans hXt
          have x0:=x3.c0
          have x1:=x3.c1
          have xf0:=x3.frozen 0
          have xf1:=x3.frozen 1
          refine Zc 13 (by kernel_rfl) rfl (fun K hK=>?_)
          go_simp
          obtain⟨wz,hwz⟩:∃wz,(w3.setCell ⟨w2.heap.size,0,none⟩ (.slice none 0 0)).setCell ⟨w2.heap.size,1,none⟩ (.slice none 0 0)=wz:=⟨_,rfl⟩
          rw [hwz]
          have hzo:∀b,b≠w2.heap.size->wz.heap[b]? =w3.heap[b]? :=fun b hb=>by rw [<-hwz,Below.heap_setCell _ ⟨w2.heap.size,1,none⟩ _ b hb,Below.heap_setCell _ ⟨w2.heap.size,0,none⟩ _ b hb]
          have HGZ:Hid (wr.grownBy wz (some q)):=⟨by rw [<-hwz];exact g3.os,by rw [<-hwz];exact g3.tape,by rw [<-hwz];exact g3.output,by rw [<-hwz,Zb,Zb];exact g3.size,fun b hb hbq=>(hzo b (by omega)).trans (g3.block b hb hbq)⟩
          have HCZ:Hid (Cur wz q ao n cap):=c3.kept14 (hzo q (by omega))
          have z3:Two wz w2.heap.size (.slice none 0 0) (.slice none 0 0) 47:=by rw [<-hwz];exact (x3.set0 _).set1 _
          refine hK.out _ _ (HS.out _ HGZ.out) (fun hS5=>?_)
          have zc0:=z3.c0
          have zc1:=z3.c1
          clear hK K hwz x0 x1 xf0 xf1 x3 z3
          refine ZB [14] rfl (by kernel_rfl) (by kernel_rfl) (by kernel_rfl) hS5 ?_
          iterate 1
           refine⟨_,rfl,?_⟩
           apply Exists.intro
           refine⟨Or.inl ⟨by rfl,fun w' hw'=>?_⟩,?_⟩
           · first
             | (go_simp;done)
             | (go_simp;with_reducible rfl)
           simp only [Act.put,List.getElem_toArray,List.getElem_cons_succ,List.getElem_cons_zero,List.setIfInBounds_toArray,List.set_cons_zero,List.set_cons_succ]
          refine NoPanic.normal (NoPanic.normal ?_)
          go_wp2_with fail
          go_roundw
          case rel=>exact⟨k+1,am,cm,al,cl,ms,ls,by omega,by go_num,HOLD.out _ HGZ.out HCZ.out⟩
          case measure=>simp [intOf];omega
        · have g3:wr.grownBy w3 (some q):=Zh gW2 (Zw L3 _)
          have c3:Cur w3 q ao n cap:=cW2.kept14 (L3.block q (by have:=gW2.size;omega))
          refine hK.out _ _ (HS.out w3 g3) (fun hS3=>?_)
          clear hK K
          have HOK':=Za hok'
          have HLN':=Za hlen'
          refine Zo 2 [9,10,11] (by kernel_rfl) (by kernel_rfl) (by kernel_rfl) hS3 ?_
          iterate 3
           refine⟨_,rfl,?_⟩
           apply Exists.intro
           refine⟨Or.inl ⟨by rfl,fun w' hw'=>?_⟩,?_⟩
           · first
             | (go_simp;done)
             | (go_simp;with_reducible rfl)
           simp only [Act.put,List.getElem_toArray,List.getElem_cons_succ,List.getElem_cons_zero,List.setIfInBounds_toArray,List.set_cons_zero,List.set_cons_succ]
          have x3:Two w3 w2.heap.size (.slice none 0 0) (.slice none 0 0) 47:=(L3.block _ hXl).trans hXt
          have x0:=x3.c0
          have x1:=x3.c1
          have xf0:=x3.frozen 0
          have xf1:=x3.frozen 1
          refine Zc 13 (by kernel_rfl) rfl (fun K hK=>?_)
          go_simp
          obtain⟨wz,hwz⟩:∃wz,(w3.setCell ⟨w2.heap.size,0,none⟩ (.slice (some ⟨gm,0,none⟩) ms'.length cm')).setCell ⟨w2.heap.size,1,none⟩ (.slice (some ⟨gl,0,none⟩) ls'.length cl')=wz:=⟨_,rfl⟩
          rw [hwz]
          have hzo:∀b,b≠w2.heap.size->wz.heap[b]? =w3.heap[b]? :=fun b hb=>by rw [<-hwz,Below.heap_setCell _ ⟨w2.heap.size,1,none⟩ _ b hb,Below.heap_setCell _ ⟨w2.heap.size,0,none⟩ _ b hb]
          have HGZ:Hid (wr.grownBy wz (some q)):=⟨by rw [<-hwz];exact g3.os,by rw [<-hwz];exact g3.tape,by rw [<-hwz];exact g3.output,by rw [<-hwz,Zb,Zb];exact g3.size,fun b hb hbq=>(hzo b (by omega)).trans (g3.block b hb hbq)⟩
          have HCZ:Hid (Cur wz q ao n cap):=c3.kept14 (hzo q (by omega))
          have z3:Two wz w2.heap.size (.slice (some ⟨gm,0,none⟩) ms'.length cm') (.slice (some ⟨gl,0,none⟩) ls'.length cl') 47:=by rw [<-hwz];exact (x3.set0 _).set1 _
          have HWO:Hid (ZbQ wr.heap.size wz gm cm' gl cl' ms' ls'):=by
           have h6:WSt W2.heap.size w3 (some ⟨gm,0,none⟩) cm' (some ⟨gl,0,none⟩) cl' ms' ls':=Or.inr ⟨gm,gl,rfl,rfl,ho⟩
           have h7:=(h6.same (w':=wz) (fun b hb hb2=>hzo b (by omega))).mono (show wr.heap.size<=W2.heap.size from gW2.size)
           rcases h7 with ⟨h7,-⟩ | ⟨gm2,gl2,e1,e2,h7⟩
           · cases h7
           · injection e1 with e1;injection e1 with e1;injection e2 with e2;injection e2 with e2
             subst e1 e2
             exact h7
          refine hK.out _ _ (HS.out _ HGZ.out) (fun hS5=>?_)
          have zc0:=z3.c0
          have zc1:=z3.c1
          clear hK K hwz x0 x1 xf0 xf1 x3 z3
          refine ZB [14] rfl (by kernel_rfl) (by kernel_rfl) (by kernel_rfl) hS5 ?_
          iterate 1
           refine⟨_,rfl,?_⟩
           apply Exists.intro
           refine⟨Or.inl ⟨by rfl,fun w' hw'=>?_⟩,?_⟩
           · first
             | (go_simp;done)
             | (go_simp;with_reducible rfl)
           simp only [Act.put,List.getElem_toArray,List.getElem_cons_succ,List.getElem_cons_zero,List.setIfInBounds_toArray,List.set_cons_zero,List.set_cons_succ]
          refine NoPanic.normal (NoPanic.normal ?_)
          obtain⟨t0,t1,-,-⟩:=HS.out _ HGZ.out
          obtain⟨f0,f1⟩:=HAF.out _ HGZ.out
          go_wp2_with fail
          go_roundw
          case rel=>exact⟨k+1,some ⟨gm,0,none⟩,cm',some ⟨gl,0,none⟩,cl',ms',ls',by omega,by go_num,HEND.out _ _ _ _ _ ms' ls' HGZ.out HCZ.out (Or.inr ⟨gm,gl,rfl,rfl,HWO.out⟩) HOK'.out HLN'.out⟩
          case measure=>simp [intOf];omega
    · go_simp
      obtain⟨W1,hW1⟩:∃W,(wr.alloc (.cells #[.slice none 0 0,.slice none 0 0] 47)).drew=W:=⟨_,rfl⟩
      have gW1:wr.grownBy W1 (some q):=by rw [<-hW1];exact⟨rfl,rfl,rfl,by simp,fun b hb _=>Below.heap_alloc _ _ _ hb⟩
      have cW1:Cur W1 q ao n cap:=by rw [<-hW1];exact (HCR.out.alloc _).drew
      have hXt1:Two W1 wr.heap.size (.slice none 0 0) (.slice none 0 0) 47:=by rw [<-hW1];exact Two.new wr _ _ _
      have hXl1:wr.heap.size<W1.heap.size:=hXt1.lt
      have hXr:wr.heap.size<=wr.heap.size:=Nat.le_refl _
      rw [hW1]
      clear hW1
      refine hK.out _ _ (HS.out _ gW1) (fun _=>?_)
      clear hK K
      refine Zc 6 (by kernel_rfl) rfl (fun K hK=>?_)
      go_simp
      refine (HB.out _ cW1 (HVR.out W1 gW1)).mono ?_
      rintro e w2 ⟨⟨y,y0,y1,rfl⟩,c2,g2'⟩
      have g2:wr.grownBy w2 (some q):=Zh gW1 g2'
      have hx:IntKind.i64.wrap (1+y)=1+y:=by rw [IntWalk.i64_in _ ⟨by omega,by omega⟩]
      refine hK.out _ _ (HS.out w2 g2) (fun hS2=>?_)
      clear hK K
      refine Zo 6 [7] (by kernel_rfl) (by kernel_rfl) (by kernel_rfl) hS2 ?_
      iterate 1
       refine⟨_,rfl,?_⟩
       apply Exists.intro
       refine⟨Or.inl ⟨by rfl,fun w' hw'=>?_⟩,?_⟩
       · first
         | (go_simp;done)
         | (go_simp;with_reducible rfl)
       simp only [Act.put,List.getElem_toArray,List.getElem_cons_succ,List.getElem_cons_zero,List.setIfInBounds_toArray,List.set_cons_zero,List.set_cons_succ]
      have hXt:Two w2 wr.heap.size (.slice none 0 0) (.slice none 0 0) 47:=(g2'.block _ hXl1 (by simp;omega)).trans hXt1
      have hXl:wr.heap.size<w2.heap.size:=hXt.lt
      refine Zc 8 (by kernel_rfl) rfl (fun K hK=>?_)
      go_simp
      refine (HLK.out w2 _ g2).mono ?_
      rintro e w3 (⟨rfl,L3⟩ | ⟨gm,cm',gl,cl',ms',ls',rfl,ho,hok',hlen',L3⟩)
      · have g3:wr.grownBy w3 (some q):=Zh g2 (Zw L3 _)
        have c3:Cur w3 q ao n cap:=c2.kept14 (L3.block q (by have:=g2.size;omega))
        refine hK.out _ _ (HS.out w3 g3) (fun hS3=>?_)
        clear hK K
        refine Zo 2 [9,10,11] (by kernel_rfl) (by kernel_rfl) (by kernel_rfl) hS3 ?_
        iterate 3
         refine⟨_,rfl,?_⟩
         apply Exists.intro
         refine⟨Or.inl ⟨by rfl,fun w' hw'=>?_⟩,?_⟩
         · first
           | (go_simp;done)
           | (go_simp;with_reducible rfl)
         simp only [Act.put,List.getElem_toArray,List.getElem_cons_succ,List.getElem_cons_zero,List.setIfInBounds_toArray,List.set_cons_zero,List.set_cons_succ]
        have x3:Two w3 wr.heap.size (.slice none 0 0) (.slice none 0 0) 47:=(L3.block _ hXl).trans hXt
        have x0:=x3.c0
        have x1:=x3.c1
        have xf0:=x3.frozen 0
        have xf1:=x3.frozen 1
        refine Zc 13 (by kernel_rfl) rfl (fun K hK=>?_)
        go_simp
        obtain⟨wz,hwz⟩:∃wz,(w3.setCell ⟨wr.heap.size,0,none⟩ (.slice none 0 0)).setCell ⟨wr.heap.size,1,none⟩ (.slice none 0 0)=wz:=⟨_,rfl⟩
        rw [hwz]
        have hzo:∀b,b≠wr.heap.size->wz.heap[b]? =w3.heap[b]? :=fun b hb=>by rw [<-hwz,Below.heap_setCell _ ⟨wr.heap.size,1,none⟩ _ b hb,Below.heap_setCell _ ⟨wr.heap.size,0,none⟩ _ b hb]
        have HGZ:Hid (wr.grownBy wz (some q)):=⟨by rw [<-hwz];exact g3.os,by rw [<-hwz];exact g3.tape,by rw [<-hwz];exact g3.output,by rw [<-hwz,Zb,Zb];exact g3.size,fun b hb hbq=>(hzo b (by omega)).trans (g3.block b hb hbq)⟩
        have HCZ:Hid (Cur wz q ao n cap):=c3.kept14 (hzo q (by omega))
        have z3:Two wz wr.heap.size (.slice none 0 0) (.slice none 0 0) 47:=by rw [<-hwz];exact (x3.set0 _).set1 _
        refine hK.out _ _ (HS.out _ HGZ.out) (fun hS5=>?_)
        have zc0:=z3.c0
        have zc1:=z3.c1
        clear hK K hwz x0 x1 xf0 xf1 x3 z3
        refine ZB [14] rfl (by kernel_rfl) (by kernel_rfl) (by kernel_rfl) hS5 ?_
        iterate 1
         refine⟨_,rfl,?_⟩
         apply Exists.intro
         refine⟨Or.inl ⟨by rfl,fun w' hw'=>?_⟩,?_⟩
         · first
           | (go_simp;done)
           | (go_simp;with_reducible rfl)
         simp only [Act.put,List.getElem_toArray,List.getElem_cons_succ,List.getElem_cons_zero,List.setIfInBounds_toArray,List.set_cons_zero,List.set_cons_succ]
        refine NoPanic.normal (NoPanic.normal ?_)
        go_wp2_with fail
        go_roundw
        case rel=>exact⟨k+1,am,cm,al,cl,ms,ls,by omega,by go_num,HOLD.out _ HGZ.out HCZ.out⟩
        case measure=>simp [intOf];omega
      · have g3:wr.grownBy w3 (some q):=Zh g2 (Zw L3 _)
        have c3:Cur w3 q ao n cap:=c2.kept14 (L3.block q (by have:=g2.size;omega))
        refine hK.out _ _ (HS.out w3 g3) (fun hS3=>?_)
        clear hK K
        have HOK':=Za hok'
        have HLN':=Za hlen'
        refine Zo 2 [9,10,11] (by kernel_rfl) (by kernel_rfl) (by kernel_rfl) hS3 ?_
        iterate 3
         refine⟨_,rfl,?_⟩
         apply Exists.intro
         refine⟨Or.inl ⟨by rfl,fun w' hw'=>?_⟩,?_⟩
         · first
           | (go_simp;done)
           | (go_simp;with_reducible rfl)
         simp only [Act.put,List.getElem_toArray,List.getElem_cons_succ,List.getElem_cons_zero,List.setIfInBounds_toArray,List.set_cons_zero,List.set_cons_succ]
        have x3:Two w3 wr.heap.size (.slice none 0 0) (.slice none 0 0) 47:=(L3.block _ hXl).trans hXt
        have x0:=x3.c0
        have x1:=x3.c1
        have xf0:=x3.frozen 0
        have xf1:=x3.frozen 1
        refine Zc 13 (by kernel_rfl) rfl (fun K hK=>?_)
        go_simp
        obtain⟨wz,hwz⟩:∃wz,(w3.setCell ⟨wr.heap.size,0,none⟩ (.slice (some ⟨gm,0,none⟩) ms'.length cm')).setCell ⟨wr.heap.size,1,none⟩ (.slice (some ⟨gl,0,none⟩) ls'.length cl')=wz:=⟨_,rfl⟩
        rw [hwz]
        have hzo:∀b,b≠wr.heap.size->wz.heap[b]? =w3.heap[b]? :=fun b hb=>by rw [<-hwz,Below.heap_setCell _ ⟨wr.heap.size,1,none⟩ _ b hb,Below.heap_setCell _ ⟨wr.heap.size,0,none⟩ _ b hb]
        have HGZ:Hid (wr.grownBy wz (some q)):=⟨by rw [<-hwz];exact g3.os,by rw [<-hwz];exact g3.tape,by rw [<-hwz];exact g3.output,by rw [<-hwz,Zb,Zb];exact g3.size,fun b hb hbq=>(hzo b (by omega)).trans (g3.block b hb hbq)⟩
        have HCZ:Hid (Cur wz q ao n cap):=c3.kept14 (hzo q (by omega))
        have z3:Two wz wr.heap.size (.slice (some ⟨gm,0,none⟩) ms'.length cm') (.slice (some ⟨gl,0,none⟩) ls'.length cl') 47:=by rw [<-hwz];exact (x3.set0 _).set1 _
        have HWO:Hid (ZbQ wr.heap.size wz gm cm' gl cl' ms' ls'):=by
         have h6:WSt w2.heap.size w3 (some ⟨gm,0,none⟩) cm' (some ⟨gl,0,none⟩) cl' ms' ls':=Or.inr ⟨gm,gl,rfl,rfl,ho⟩
         have h7:=(h6.same (w':=wz) (fun b hb hb2=>hzo b (by omega))).mono (show wr.heap.size<=w2.heap.size from g2.size)
         rcases h7 with ⟨h7,-⟩ | ⟨gm2,gl2,e1,e2,h7⟩
         · cases h7
         · injection e1 with e1;injection e1 with e1;injection e2 with e2;injection e2 with e2
           subst e1 e2
           exact h7
        refine hK.out _ _ (HS.out _ HGZ.out) (fun hS5=>?_)
        have zc0:=z3.c0
        have zc1:=z3.c1
        clear hK K hwz x0 x1 xf0 xf1 x3 z3
        refine ZB [14] rfl (by kernel_rfl) (by kernel_rfl) (by kernel_rfl) hS5 ?_
        iterate 1
         refine⟨_,rfl,?_⟩
         apply Exists.intro
         refine⟨Or.inl ⟨by rfl,fun w' hw'=>?_⟩,?_⟩
         · first
           | (go_simp;done)
           | (go_simp;with_reducible rfl)
         simp only [Act.put,List.getElem_toArray,List.getElem_cons_succ,List.getElem_cons_zero,List.setIfInBounds_toArray,List.set_cons_zero,List.set_cons_succ]
        refine NoPanic.normal (NoPanic.normal ?_)
        obtain⟨t0,t1,-,-⟩:=HS.out _ HGZ.out
        obtain⟨f0,f1⟩:=HAF.out _ HGZ.out
        go_wp2_with fail
        go_roundw
        case rel=>exact⟨k+1,some ⟨gm,0,none⟩,cm',some ⟨gl,0,none⟩,cl',ms',ls',by omega,by go_num,HEND.out _ _ _ _ _ ms' ls' HGZ.out HCZ.out (Or.inr ⟨gm,gl,rfl,rfl,HWO.out⟩) HOK'.out HLN'.out⟩
        case measure=>simp [intOf];omega
  · obtain rfl:k=ds.length:=by omega
    have a0:=hdw.a0.c0
    have a1:=hdw.a0.c1
    have r0:=hdw.r0.c0
    have r1:=hdw.r0.c1
    have f0:=hdw.r0.frozen 0
    have f1:=hdw.r0.frozen 1
    have HDW:=Za hdw
    clear hdw
    go_wp2_with fail
    obtain⟨wy,hwy⟩:∃wy,(wr.setCell ⟨w.heap.size,0,none⟩ (.slice am ms.length cm)).setCell ⟨w.heap.size,1,none⟩ (.slice al ls.length cl)=wy:=⟨_,rfl⟩
    rw [hwy]
    have hoth:∀b,b≠w.heap.size->wy.heap[b]? =wr.heap[b]? :=fun b hb=>by
     rw [<-hwy,Below.heap_setCell _ ⟨w.heap.size,1,none⟩ _ b hb,Below.heap_setCell _ ⟨w.heap.size,0,none⟩ _ b hb]
    have hR:Two wy w.heap.size (.slice am ms.length cm) (.slice al ls.length cl) 47:=by rw [<-hwy];exact (HDW.out.r0.set0 _).set1 _
    have y0:=hR.c0
    have y1:=hR.c1
    have hgz:=HDW.out.gr
    have HFIN:Hid (WSt w.heap.size wy am cm al cl ms ls/\Zab ms ls=true/\ms.length<=9/\Cur wy q ao n cap/\w.grownBy wy (some q)):=by
     refine⟨(HDW.out.web.same (fun b hb _=>hoth b (by omega))).mono (by omega),HDW.out.ok,by have:=HDW.out.len;omega,HDW.out.cur.kept14 (hoth q (by omega)),⟨by rw [<-hwy];exact hgz.os,by rw [<-hwy];exact hgz.tape,by rw [<-hwy];exact hgz.output,by rw [<-hwy,Zb,Zb];exact hgz.size,fun b hb hbq=>(hoth b (by omega)).trans (hgz.block b hb hbq)⟩⟩
    clear hwy hoth hR hgz
    refine bodyPost_ret (v:=.agg #[.slice am ms.length cm,.slice al ls.length cl]) (by simp [results,Tryz.results235,go_sem,y0,y1]) rfl ?_
    exact⟨⟨am,cm,al,cl,ms,ls,rfl,HFIN.out.1,HFIN.out.2.1,HFIN.out.2.2.1⟩,HFIN.out.2.2.2⟩
structure Zhg(base:Nat)(w:World)(gm cm gl cl:Nat)(ms:List Mk)(ls:List (List Int)):Prop where
 mh:ZbH base w gm ms ms.length
 lm:∃rs,ZaP base w gl cl rs/\ZaJ rs=ls
 mc:ms.length<=cm
 lc:ls.length<=cl
 n9:ms.length<=9
 l9:ls.length<=9
 at5:∀i,(mat ms i).length<=5
 cn61:∀i,(cn ls i).length<=61
def WA(base:Nat)(w:World)(am:Option Addr)(cm:Nat)(al:Option Addr)(cl:Nat)(ms:List Mk)(ls:List (List Int)):Prop:=
 (am=none/\cm=0/\al=none/\cl=0/\ms=[]/\ls=[])\/∃gm gl,am=some ⟨gm,0,none⟩/\al=some ⟨gl,0,none⟩/\Zhg base w gm cm gl cl ms ls
theorem Zhg.kept{base:Nat}{w w':World}{gm cm gl cl:Nat}{ms:List Mk}{ls:List (List Int)}{r:Option Nat}(h:Zhg base w gm cm gl cl ms ls)(hg:w.grownBy w' r)(hr:∀k,r=some k->k<base):Zhg base w' gm cm gl cl ms ls:=by
 obtain⟨rs,h1,h2⟩:=h.lm
 exact⟨h.mh.kept hg hr,⟨rs,h1.kept hg (fun e=>by have:=hr _ e.symm;have:=h1.row.lt;omega) (fun x hx e=>by have:=hr _ e.symm;have:=(h1.rows x hx).lt;omega),h2⟩,h.mc,h.lc,h.n9,h.l9,h.at5,h.cn61⟩
theorem WA.kept{base:Nat}{w w':World}{am al:Option Addr}{cm cl:Nat}{ms:List Mk}{ls:List (List Int)}{r:Option Nat}(h:WA base w am cm al cl ms ls)(hg:w.grownBy w' r)(hr:∀k,r=some k->k<base):WA base w' am cm al cl ms ls:=by
 rcases h with h | ⟨gm,gl,e1,e2,h⟩
 · exact Or.inl h
 · exact Or.inr ⟨gm,gl,e1,e2,h.kept hg hr⟩
theorem Zhg.mono{base base':Nat}{w:World}{gm cm gl cl:Nat}{ms:List Mk}{ls:List (List Int)}(h:Zhg base w gm cm gl cl ms ls)(hb:base'<=base):Zhg base' w gm cm gl cl ms ls:=by
 obtain⟨rs,h1,h2⟩:=h.lm
 obtain⟨m1,m2,m3,m4⟩:=h.mh
 exact⟨⟨Nat.le_trans hb m1,m2,m3,fun i hi hs=>by
  obtain⟨b,cap,e,q1,q2⟩:=m4 i hi hs
  exact⟨b,cap,e,Nat.le_trans hb q1,q2⟩⟩,⟨rs,h1.mono hb,h2⟩,h.mc,h.lc,h.n9,h.l9,h.at5,h.cn61⟩
theorem WA.mono{base base':Nat}{w:World}{am al:Option Addr}{cm cl:Nat}{ms:List Mk}{ls:List (List Int)}(h:WA base w am cm al cl ms ls)(hb:base'<=base):WA base' w am cm al cl ms ls:=by
 rcases h with h | ⟨gm,gl,e1,e2,h⟩
 · exact Or.inl h
 · exact Or.inr ⟨gm,gl,e1,e2,h.mono hb⟩
theorem WA.small{base:Nat}{w:World}{am al:Option Addr}{cm cl:Nat}{ms:List Mk}{ls:List (List Int)}(h:WA base w am cm al cl ms ls):ZX ms/\ZaZ ls/\ms.length<=cm/\ls.length<=cl/\ms.length<=9/\ls.length<=9/\(∀i,(mat ms i).length<=5)/\∀i,(cn ls i).length<=61:=by
 rcases h with ⟨-,rfl,-,rfl,rfl,rfl⟩ | ⟨gm,gl,rfl,rfl,h⟩
 · refine⟨⟨by simp,fun i=>by simp [mat]⟩,⟨by simp,fun i=>by simp [cn]⟩,by simp,by simp,by simp,by simp,fun i=>by simp [mat],fun i=>by simp [cn]⟩
 · exact⟨⟨by have:=h.n9;omega,fun i=>by have:=h.at5 i;omega⟩,⟨by have:=h.l9;omega,fun i=>by have:=h.cn61 i;omega⟩,h.mc,h.lc,h.n9,h.l9,h.at5,h.cn61⟩
theorem ZjX{ms:List Mk}(h:Zn ms=true)(i:Nat):(mat ms i).length<=4:=by
 rcases Nat.lt_or_ge i ms.length with hi | hi
 · exact (Zat ((ZG _ _).1 (ZM h hi)).2.2.1).2
 · simp [mat,List.getD,hi]
theorem Ze4{ms:List Mk}{ls:List (List Int)}(h:Zab ms ls=true)(i:Nat):(cn ls i).length<=60:=by
 have h60:=ZA (ZJ h)
 rcases Nat.lt_or_ge i ms.length with hi | hi
 · have:=ZcN h hi;omega
 · have:=Za5 h
   simp [cn,List.getD,this,hi]
theorem ZbQ.any{base:Nat}{w:World}{gm cm gl cl:Nat}{ms:List Mk}{ls:List (List Int)}(h:ZbQ base w gm cm gl cl ms ls)(hw:Zab ms ls=true)(h9:ms.length<=9):Zhg base w gm cm gl cl ms ls:=by
 obtain⟨B,ds,B',rs,hb,hb',h1,h2,h3,h4,-⟩:=h
 have hcap:=h1.cap
 have hlen:ds.length=ms.length:=by rw [<-h2,Zp]
 have hrl:rs.length=ls.length:=by rw [<-h4,Za0]
 obtain⟨m1,m2,m3,m4⟩:=h1.high (Zj ds).length
 refine⟨?_,⟨rs,h3.mono hb',h4⟩,by omega,?_,h9,by have:=Za5 hw;omega,fun i=>by have:=ZjX (ZJ hw) i;omega,fun i=>by have:=Ze4 hw i;omega⟩
 · rw [<-h2]
   exact⟨Nat.le_trans hb m1,m2,m3,fun i hi hs=>by
    obtain⟨b,cap,e,q1,q2⟩:=m4 i hi hs
    exact⟨b,cap,e,Nat.le_trans hb q1,q2⟩⟩
 · rw [<-hrl]
   obtain⟨hx,h5⟩:=h3.row
   rcases h5 with ⟨e,_⟩ | ⟨g',cp,cur,e,_,_,hnc,_⟩
   · cases e
   · injection e with e1 e2 e3;omega
theorem Zd8{rs:List Rw}{i:Nat}(hi:i<rs.length):cn (ZaJ rs) i=rs[i].2.2:=by simp [cn,ZaJ,List.getD,hi]
theorem Zcm{base e size m n c g:Nat}{w:World}{xs:List Value}(h:w.ownsRow base e size (.slice (some ⟨g,0,none⟩) m c) n xs):∃cur,w.heap[g]? =some (.cells cur e (0,0)):=by
 obtain⟨-,h2⟩:=h
 rcases h2 with ⟨e1,-⟩ | ⟨g',cp,cur,e1,-,hg,-⟩
 · cases e1
 · injection e1 with e1;injection e1 with e1;injection e1 with e1
   subst e1
   exact⟨cur,hg⟩
theorem Zd9{w:World}{A g t e:Nat}{u v:Value}(h:Two w A u v t)(hg:∃cur,w.heap[g]? =some (.cells cur e (0,0)))(hne:e≠t):A≠g:=by
 intro e1
 subst e1
 obtain⟨cur,hg⟩:=hg
 unfold Two at h
 rw [h] at hg
 injection hg with hg
 injection hg with _ hg
 exact hne hg.symm
theorem Zip{base e size n:Nat}{w w':World}{v:Value}{xs:List Value}(h:w.ownsRow base e size v n xs)(hb:Below w.heap.size w w'):w'.ownsRow base e size v n xs:=by
 obtain⟨h1,h2⟩:=h
 refine⟨h1,?_⟩
 rcases h2 with h2 | ⟨g,cp,cur,e1,hb1,hg,h5⟩
 · exact Or.inl h2
 · exact Or.inr ⟨g,cp,cur,e1,hb1,(hb.block g (Array.getElem?_eq_some_iff.1 hg).1).trans hg,h5⟩
theorem Ze5{base base' e size n:Nat}{w:World}{v:Value}{xs:List Value}(h:w.ownsRow base e size v n xs)(hb:base'<=base):w.ownsRow base' e size v n xs:=by
 obtain⟨h1,h2⟩:=h
 refine⟨h1,?_⟩
 rcases h2 with h2 | ⟨g,cp,cur,e1,hb1,h5⟩
 · exact Or.inl h2
 · exact Or.inr ⟨g,cp,cur,e1,Nat.le_trans hb hb1,h5⟩
theorem ZbH.blocks{base:Nat}{w w':World}{g skip:Nat}{ms:List Mk}(h:ZbH base w g ms skip)(hs:w.heap.size<=w'.heap.size)(e0:w'.heap[g]? =w.heap[g]?)(e:∀i,i<ms.length->∀b cp,w.cell? ⟨g,i*2+1,none⟩=some (.slice (some ⟨b,0,none⟩) (mat ms i).length cp)->base<=b->b<w.heap.size->w'.heap[b]? =w.heap[b]?):ZbH base w' g ms skip:=by
 obtain⟨h1,h2,h3,h4⟩:=h
 have ec:∀o,w'.cell? ⟨g,o,none⟩=w.cell? ⟨g,o,none⟩:=fun o=>World.cell?_of_block e0
 refine⟨h1,Nat.lt_of_lt_of_le h2 hs,fun i hi=>?_,fun i hi his=>?_⟩
 · rw [ec,ec];exact h3 i hi
 · obtain⟨b,cap,q1,q2,q3,q4,q5⟩:=h4 i hi his
   refine⟨b,cap,by rw [ec];exact q1,q2,Nat.lt_of_lt_of_le q3 hs,q4,fun j hj=>?_⟩
   exact (World.cell?_of_block (e i hi b cap q1 q2 q3)).trans (q5 j hj)
theorem Ze6{w wf:World}{q n cap:Nat}{ao am al:Option Addr}{cm cl:Nat}{ms:List Mk}{ls:List (List Int)}(hq:q<w.heap.size)(hR:Two wf w.heap.size (.slice none 0 0) (.slice none 0 0) 47)(hc:Cur wf q ao n cap)(hg:w.grownBy wf (some q))(hA:WA (w.heap.size+1) wf am cm al cl ms ls){wy:World}(hwy:wy=(wf.setCell ⟨w.heap.size,0,none⟩ (.slice am ms.length cm)).setCell ⟨w.heap.size,1,none⟩ (.slice al ls.length cl)):
 WA w.heap.size wy am cm al cl ms ls/\Cur wy q ao n cap/\w.grownBy wy (some q)/\wy.cell? ⟨w.heap.size,0,none⟩=some (.slice am ms.length cm)/\wy.cell? ⟨w.heap.size,1,none⟩=some (.slice al ls.length cl):=by
 have hoth:∀b,b≠w.heap.size->wy.heap[b]? =wf.heap[b]? :=fun b hb=>by
  rw [hwy,Below.heap_setCell _ ⟨w.heap.size,1,none⟩ _ b hb,Below.heap_setCell _ ⟨w.heap.size,0,none⟩ _ b hb]
 have hT:Two wy w.heap.size (.slice am ms.length cm) (.slice al ls.length cl) 47:=by rw [hwy];exact (hR.set0 _).set1 _
 have hg2:wf.grownBy wy (some w.heap.size):=by rw [hwy];exact Zh (ZaT wf w.heap.size 0 _) (ZaT _ w.heap.size 1 _)
 refine⟨(hA.kept hg2 (fun k hk=>by injection hk with hk;omega)).mono (by omega),hc.kept14 (hoth q (by omega)),⟨by rw [hwy];exact hg.os,by rw [hwy];exact hg.tape,by rw [hwy];exact hg.output,by rw [hwy,Zb,Zb];exact hg.size,fun b hb hbq=>(hoth b (by omega)).trans (hg.block b hb hbq)⟩,hT.c0,hT.c1⟩
theorem ZmB(q:Nat)(ao:Option Addr)(n cap:Nat)(w:World)(hc:Cur w q ao n cap)(hv:ZW w ao n)(hn:n<=4096):
 Calls Tryz.prog 178 #[.pointer (some ⟨q,0,none⟩)] w fun e w'=>(∃am cm al cl ms ls,e=.returned (.agg #[.slice am ms.length cm,.slice al ls.length cl])/\WA w.heap.size w' am cm al cl ms ls)/\Cur w' q ao n cap/\w.grownBy w' (some q):=by
 have hq:=hc.lt
 obtain⟨W,hW⟩:∃W,w.alloc (.cells #[.slice none 0 0,.slice none 0 0] 47)=W:=⟨_,rfl⟩
 have hWs:W.heap.size=w.heap.size+1:=by rw [<-hW];simp
 have gW:w.grownBy W (some q):=by rw [<-hW];exact World.grownBy_alloc w _ (some q)
 have cW:Cur W q ao n cap:=by rw [<-hW];exact hc.alloc _
 have tR:Two W w.heap.size (.slice none 0 0) (.slice none 0 0) 47:=by rw [<-hW];exact Two.new w _ _ _
 have HCW:=Za (cWeb q ao n cap W cW (hv.grown hc gW) hn)
 have HV0:Hid (∀wr,w.grownBy wr (some q)->ZW wr ao n):=fun wr hg=>hv.grown hc hg
 have HWW:=Za hW
 have HST:=Za (And.intro gW tR)
 clear hW gW cW tR hv hc
 go_enter Tryz.func178,Tryz.ntmps178
 go_wp2_with fail
 rw [HWW.out]
 refine HCW.out.mono ?_
 rintro e w1 ⟨⟨am,cm,al,cl,ms,ls,rfl,hst,hok,h9⟩,c1,g1⟩
 have hs1:=g1.size
 obtain⟨A,hA⟩:∃A,A=w1.heap.size:=⟨_,rfl⟩
 obtain⟨W2,hW2⟩:∃W,w1.alloc (.cells #[.slice am ms.length cm,.slice al ls.length cl] 47)=W:=⟨_,rfl⟩
 have g12:w1.grownBy W2 (some q):=by rw [<-hW2];exact World.grownBy_alloc w1 _ (some q)
 have g02:=Zh HST.out.1 (Zh g1 g12)
 have c2:Cur W2 q ao n cap:=by rw [<-hW2];exact c1.alloc _
 have tA:Two W2 A (.slice am ms.length cm) (.slice al ls.length cl) 47:=by rw [<-hW2,hA];exact Two.new w1 _ _ _
 have tR2:Two W2 w.heap.size (.slice none 0 0) (.slice none 0 0) 47:=(g12.block _ (by omega) (by simp;omega)).trans ((g1.block _ (by omega) (by simp;omega)).trans HST.out.2)
 have hR1:Two w1 w.heap.size (.slice none 0 0) (.slice none 0 0) 47:=(g1.block _ (by omega) (by simp;omega)).trans HST.out.2
 have hst2:WSt (w.heap.size+1) W2 am cm al cl ms ls:=by rw [<-hWs];exact hst.same (fun b _ hb=>by rw [<-hW2];exact Below.heap_alloc _ _ _ hb)
 have hAl:A<W2.heap.size:=tA.lt
 have hAr:w.heap.size+1<=A:=by omega
 have a0:=tA.c0
 have a1:=tA.c1
 have HFX:Hid (∀wz,W2.grownBy wz (some q)->Two wz w.heap.size (.slice none 0 0) (.slice none 0 0) 47/\w.grownBy wz (some q)/\ZW wz ao n/\Two wz A (.slice am ms.length cm) (.slice al ls.length cl) 47/\WSt (w.heap.size+1) wz am cm al cl ms ls):=fun wz hg=>
  ⟨(hg.block _ (by have:=g02.size;omega) (by simp;omega)).trans tR2,Zh g02 hg,HV0.out wz (Zh g02 hg),(hg.block _ hAl (by simp;omega)).trans tA,hst2.same (fun b hb hb2=>hg.block b hb2 (by simp;omega))⟩
 have HW2:=Za hW2
 have HW1:Hid (WSt (w.heap.size+1) w1 am cm al cl ms ls/\Cur w1 q ao n cap/\w.grownBy w1 (some q)):=⟨by rw [<-hWs];exact hst,c1,Zh HST.out.1 g1⟩
 have HOK:=Za hok
 have HC2:=Za c2
 have HNL:Hid (ls.length=ms.length):=Za5 hok
 have hl9:ls.length<=9:=by have:=Za5 hok;omega
 clear hst hok c1 g1 g12 g02 tA tR2 hst2 HCW HST HWW hW2 a0 a1 c2
 obtain⟨hR2,-,-,hT2,hS2⟩:=HFX.out W2 (ZI _ _)
 have a0:=hT2.c0
 have a1:=hT2.c1
 by_cases hl0:ls.length=0
 · have hgt:¬((ls.length:Int) > 0):=by omega
   obtain⟨hst1,cc1,gg1⟩:=HW1.out
   have HWA:Hid (WA (w.heap.size+1) w1 am cm al cl ms ls):=by
    rcases hst1 with h | ⟨gm,gl,e1,e2,h⟩
    · exact Or.inl h
    · exact Or.inr ⟨gm,gl,e1,e2,h.any HOK.out h9⟩
   have HC:=Za (And.intro cc1 gg1)
   have HR:=Za hR1
   have r0:=hR1.c0
   have r1:=hR1.c1
   have f0:=hR1.frozen 0
   have f1:=hR1.frozen 1
   have hRl:=hR1.lt
   clear hS2 hT2 hl0 hR2 hR1 a0 a1 hst1 cc1 gg1
   go_wp2_with fail
   obtain⟨wy,hwy⟩:∃wy,wy=(w1.setCell ⟨w.heap.size,0,none⟩ (.slice am ms.length cm)).setCell ⟨w.heap.size,1,none⟩ (.slice al ls.length cl):=⟨_,rfl⟩
   rw [<-hwy]
   obtain⟨u1,u2,u3,y0,y1⟩:=Ze6 hq HR.out HC.out.1 HC.out.2 HWA.out hwy
   have hys:wy.heap.size=w1.heap.size:=by rw [hwy,Zb,Zb]
   obtain⟨wx,hwx⟩:∃wx,wy.alloc (.cells #[.slice am ms.length cm,.slice al ls.length cl] 47)=wx:=⟨_,rfl⟩
   have LX:Below wy.heap.size wy wx:=by rw [<-hwx];exact (Below.refl _ _).alloc (Nat.le_refl _) _
   rw [hwx]
   have z0:=(LX.cell (p:=⟨w.heap.size,0,none⟩) (by show w.heap.size<_;omega)).trans y0
   have z1:=(LX.cell (p:=⟨w.heap.size,1,none⟩) (by show w.heap.size<_;omega)).trans y1
   have HFIN:=Za (And.intro (u1.kept (Zw LX none) (fun k hk=>by cases hk)) (And.intro (u2.kept14 (LX.block q (by omega))) (Zh u3 (Zw LX (some q)))))
   clear hwy u1 u2 u3 hwx LX y0 y1
   refine bodyPost_ret (v:=.agg #[.slice am ms.length cm,.slice al ls.length cl]) (by simp [results,Tryz.results178,go_sem,z0,z1]) rfl ?_
   exact⟨⟨_,_,_,_,ms,ls,rfl,HFIN.out.1⟩,HFIN.out.2⟩
 have hgt:(ls.length:Int) > 0:=by omega
 go_wp2_with fail
 rw [HW2.out,<-hA]
 clear hA HW2 hR1 HW1
 obtain⟨gm,gl,rfl,rfl,hwo⟩:∃gm gl,am=some ⟨gm,0,none⟩/\al=some ⟨gl,0,none⟩/\ZbQ (w.heap.size+1) W2 gm cm gl cl ms ls:=by
  rcases hS2 with ⟨-,-,-,-,-,h⟩ | h
  · rw [h] at hl0;simp at hl0
  · exact h
 have HON:=Za (ZeU q ao n cap 6 W2 HC2.out (HFX.out W2 (ZI _ _)).2.2.1 hn (by omega) (by omega))
 clear hS2 hT2 hwo hR2
 refine HON.out.mono ?_
 rintro e w3 ⟨⟨b,rfl⟩,c3,g3⟩
 obtain⟨hR2,-,hV3,hT3,hS3⟩:=HFX.out w3 g3
 clear a0 a1
 have a0:=hT3.c0
 have a1:=hT3.c1
 cases b with
 | false=>
   have HWA:Hid (WA (w.heap.size+1) w3 (some ⟨gm,0,none⟩) cm (some ⟨gl,0,none⟩) cl ms ls):=by
    rcases hS3 with h | ⟨gm',gl',e1,e2,h⟩
    · exact Or.inl h
    · exact Or.inr ⟨gm',gl',e1,e2,h.any HOK.out h9⟩
   have HG:=Za (HFX.out _ g3).2.1
   have HC:=Za c3
   clear hS3 hT3 hV3
   have r0:=hR2.c0
   have r1:=hR2.c1
   have f0:=hR2.frozen 0
   have f1:=hR2.frozen 1
   have HR:=Za hR2
   clear hR2
   go_wp2_with fail
   obtain⟨wy,hwy⟩:∃wy,wy=(w3.setCell ⟨w.heap.size,0,none⟩ (.slice (some ⟨gm,0,none⟩) ms.length cm)).setCell ⟨w.heap.size,1,none⟩ (.slice (some ⟨gl,0,none⟩) ls.length cl):=⟨_,rfl⟩
   rw [<-hwy]
   obtain⟨u1,u2,u3,y0,y1⟩:=Ze6 hq HR.out HC.out HG.out HWA.out hwy
   have HFIN:=Za (And.intro u1 (And.intro u2 u3))
   clear hwy u1 u2 u3
   refine bodyPost_ret (v:=.agg #[.slice (some ⟨gm,0,none⟩) ms.length cm,.slice (some ⟨gl,0,none⟩) ls.length cl]) (by simp [results,Tryz.results178,go_sem,y0,y1]) rfl ?_
   exact⟨⟨_,_,_,_,ms,ls,rfl,HFIN.out.1⟩,HFIN.out.2⟩
 | true=>
   have HB1:=Za (ZaV q ao n cap (ls.length:Int) w3 c3 hV3 hn (by omega) (by omega))
   clear hS3 hT3
   go_wp2_with fail
   refine HB1.out.mono ?_
   rintro e w4 ⟨⟨kx,k0,k1,rfl⟩,c4,g4'⟩
   obtain⟨k,rfl⟩:=Int.eq_ofNat_of_zero_le k0
   have g4:=Zh g3 g4'
   have HB2:=Za (ZaV q ao n cap 3 w4 c4 (HFX.out w4 g4).2.2.1 hn (by omega) (by omega))
   go_wp2_with fail
   refine HB2.out.mono ?_
   rintro e w5 ⟨⟨tg,t0,t1,rfl⟩,c5,g5'⟩
   have g5:=Zh g4 g5'
   obtain⟨hR5,hG5,hV5,hT5,hS5⟩:=HFX.out w5 g5
   obtain⟨gm2,gl2,e1,e2,hwo⟩:∃gm' gl',some (⟨gm,0,none⟩:Addr)=some ⟨gm',0,none⟩/\some (⟨gl,0,none⟩:Addr)=some ⟨gl',0,none⟩/\ZbQ (w.heap.size+1) w5 gm' cm gl' cl ms ls:=by
    rcases hS5 with ⟨h,-⟩ | h
    · cases h
    · exact h
   injection e1 with e1;injection e1 with e1;injection e2 with e2;injection e2 with e2
   subst e1 e2
   have hkl:k<ls.length:=by omega
   clear a0 a1 HON HB1 HB2 g3 g4 g4' g5' hV3 c3 c4 hS5
   have a0:=hT5.c0
   have a1:=hT5.c1
   have HWO:=Za hwo
   have HA5:=Za (hwo.any HOK.out h9)
   have HG5:=Za g5
   clear hwo g5
   rcases (show tg=0\/tg=1\/tg=2 by omega) with rfl | rfl | rfl
   · 
    obtain⟨B,ds,B',rs,hb,hb',hD,hDm,hL,hNs,hAp⟩:=HWO.out
    have hrl:rs.length=ls.length:=by rw [<-hNs,Za0]
    have hLm:=hL.mono hb'
    have hgl:=hLm.row.lt
    have hkm:k<ms.length:=by have:=HNL.out;omega
    have hMH:=HA5.out.mh
    obtain⟨hid,-⟩:=hMH.2.2.1 k hkm
    have hgm:=hAp gm (Or.inl rfl)
    have hgml:=hMH.2.1
    have hgmb:=hMH.1
    have hAgl:A≠gl:=Zd9 hT5 (Zcm hL.row) (by decide)
    have hAgm:A≠gm:=Zd9 hT5 (Zcm hD.1) (by decide)
    have hAl5:=hT5.lt
    have HMB:Hid (∀i,i<ms.length->∀b cp,w5.cell? ⟨gm,i*2+1,none⟩=some (.slice (some ⟨b,0,none⟩) (mat ms i).length cp)->b≠gl):=fun i hi b cp hcl=>by
     have hil:i<ds.length:=by rw [<-Zp,hDm];exact hi
     have h1:=(hD.cells i hil).2
     rw [h1] at hcl
     injection hcl with hcl
     injection hcl with hcl
     injection hcl with hcl
     injection hcl with hcl
     rw [<-hcl]
     exact (hAp (Zk ds i).2.1 (Or.inr ⟨_,Za4 ds i hil,rfl⟩)).1
    have h60r:∀r∈rs,r.2.2.length<=60:=fun r hr=>by
     obtain⟨j,hj,e⟩:=List.mem_iff_getElem.1 hr
     have h1:=Ze4 HOK.out j
     have e2:cn ls j=rs[j].2.2:=by rw [<-hNs,Zd8 hj]
     rw [e2,e] at h1
     exact h1
    have HT5:=Za hT5
    have HR5:=Za hR5
    have HGW5:=Za hG5
    have HC5:=Za c5
    have hgmgl:=hgm.1
    have hk1':(k:Int)<(ms.length:Int):=by omega
    have hk0':(0:Int)<=(k:Int):=Int.natCast_nonneg _
    obtain⟨i0,hi0,hz0,hz1,hz2⟩:=info_parts Tryz.info2
    have HL0:=Za (And.intro hLm (And.intro hrl h60r))
    have HMH:=Za hMH
    clear hb hb' hD hDm hL hNs hAp hT5 hR5 hG5 hV5 hgm hR2 hMH c5 hLm hrl h60r
    go_wp2_with fail
    go_loopw [6] (fun iv wr=>∃(i:Nat) (rs':List Rw),i<=ls.length/\iv=.int .i64 i/\w5.grownBy wr (some gl)/\ZaP (w.heap.size+1) wr gl cl rs'/\rs'.length=ls.length/\∀r∈rs',r.2.2.length<=60) (fun iv _=>ls.length-(intOf iv).toNat)
    case atStart=>exact⟨0,rs,Nat.zero_le _,rfl,ZI _ _,HL0.out.1,HL0.out.2.1,HL0.out.2.2⟩
    case round=>
     obtain⟨i,rs',hi,rfl,hgr,hlm,hrl,h60⟩:=hrel
     generalize hwo:wr=wo at *
     clear hwo wr
     have hsr:=hgr.size
     have hTr:Two wo A (.slice (some ⟨gm,0,none⟩) ms.length cm) (.slice (some ⟨gl,0,none⟩) ls.length cl) 47:=(hgr.block A hAl5 (fun e=>hAgl (by injection e))).trans HT5.out
     by_cases hlt:i<ls.length
     · have hir:i<rs'.length:=by omega
       obtain⟨ra,rc,rl,hre⟩:∃a b l,rs'[i]=(a,b,l):=⟨rs'[i].1,rs'[i].2.1,rs'[i].2.2,rfl⟩
       have hrow:ZF (w.heap.size+1) wo ra rc rl:=by
        have h:=hlm.rows _ (List.getElem_mem hir)
        rw [hre] at h
        exact h
       have hrl60:rl.length<=60:=by
        have h:=h60 _ (List.getElem_mem hir)
        rw [hre] at h
        exact h
       have hcl:wo.cell? ⟨gl,i,none⟩=some (.slice (some ⟨ra,0,none⟩) rl.length rc):=by
        have h:=hlm.row.cell i hir
        rw [hre] at h
        exact h
       have hfri:=World.ownsRow.frozenAt hlm.row i
       have hcm:wo.cell? ⟨gm,k*2,none⟩=some (.int .i64 (mid ms k)):=(World.cell?_of_block (hgr.block gm hgml (fun e=>hgmgl (by injection e)))).trans hid
       have hgmr:gm<wo.heap.size:=by omega
       have hglr:=hlm.row.lt
       have hral:=hrow.lt
       have hAr5:=hTr.lt
       have b1:=hTr.c1
       have b0:=hTr.c0
       have hseg:=hrow.seg
       have HSR:Hid (∀wi,Below wo.heap.size wo wi->wi.cell? ⟨A,0,none⟩=some (.slice (some ⟨gm,0,none⟩) ms.length cm)/\wi.cell? ⟨A,1,none⟩=some (.slice (some ⟨gl,0,none⟩) ls.length cl)/\wi.cell? ⟨gl,i,none⟩=some (.slice (some ⟨ra,0,none⟩) rl.length rc)/\wi.cell? ⟨gm,k*2,none⟩=some (.int .i64 (mid ms k))/\∀j,j<rl.length->wi.cell? ⟨ra,j,none⟩=some (.int .i64 (nth rl j))):=fun wi L=>
        ⟨(L.cell (p:=⟨A,0,none⟩) hAr5).trans b0,(L.cell (p:=⟨A,1,none⟩) hAr5).trans b1,(L.cell (p:=⟨gl,i,none⟩) hglr.2).trans hcl,(L.cell (p:=⟨gm,k*2,none⟩) hgmr).trans hcm,fun j hj=>by
          have h:=hseg j hj
          rw [Nat.zero_add] at h
          exact (L.cell (p:=⟨ra,j,none⟩) hral.2).trans h⟩
       have hi0':(0:Int)<=(i:Int):=Int.natCast_nonneg _
       have hi1':(i:Int)<(ls.length:Int):=by omega
       have HLMr:=Za (And.intro hlm (And.intro hrl (And.intro h60 hgr)))
       obtain⟨wx,hwx⟩:∃wx,wo.alloc (.cells #[] 2)=wx:=⟨_,rfl⟩
       have LX:Below wo.heap.size wo wx:=by rw [<-hwx];exact (Below.refl _ _).alloc (Nat.le_refl _) _
       have HX0:Hid (ZF wo.heap.size wx wo.heap.size 0 []):=by
        show ZF _ _ _ _ _
        rw [<-hwx]
        exact World.ownsRow_lit wo #[] 0 (Nat.le_refl _) (Nat.zero_le _) rfl
       have HLX:=Za LX
       clear hseg hrow hlm h60 hgr LX hTr
       go_wp2_with fail
       clear hwx
       generalize hyy:mid ms k=yid at *
       clear hyy
       go_loopw [7,8] (fun xv jv wi=>∃(j gx cx:Nat) (xs:List Int),j<=rl.length/\jv=.int .i64 j/\xv=.slice (some ⟨gx,0,none⟩) xs.length cx/\xs.length<=j/\ZF wo.heap.size wi gx cx xs/\Below wo.heap.size wo wi) (fun _ jv _=>rl.length-(intOf jv).toNat)
       case atStart=>exact⟨0,wo.heap.size,0,[],Nat.zero_le _,rfl,rfl,Nat.le_refl _,HX0.out,HLX.out⟩
       case round=>
        obtain⟨j,gx,cx,xs,hj,rfl,rfl,hxl,hxr,L⟩:=hrel
        obtain⟨s0,s1,s2,s3,s4⟩:=HSR.out wr L
        by_cases hjl:j<rl.length
        · have s5:=s4 j hjl
          clear s4
          generalize hyn:nth rl j=yn at *
          clear hyn
          have hj0:(0:Int)<=(j:Int):=Int.natCast_nonneg _
          have hj1:(j:Int)<(rl.length:Int):=by omega
          by_cases h1:yn=yid
          · have hb1:(yn !=yid)=false:=by simp [h1]
            clear h1
            have HX:=Za hxr
            have HLi:=Za L
            clear hxr L
            go_wp2_with fail
            refine wp_region_quiet_lit (by kernel_rfl) (by kernel_rfl) ?_
            try simp only [List.append_eq,List.cons_append,List.nil_append]
            repeat (go_big_quiet_step (fail))
            refine wpQuiet_nil ?_
            intro _ hw'
            obtain⟨nq,hw''⟩:=hw'
            subst hw''
            go_wp2_with fail
            go_roundw
            case rel=>exact⟨j+1,gx,cx,xs,by omega,by go_num,rfl,by omega,HX.out,below_drewN HLi.out _⟩
            case measure=>simp [intOf];omega
          · have hb1:(yn !=yid)=true:=by simp [h1]
            clear h1
            by_cases h2:(i:Int)=(k:Int)
            · have hb2:((i:Int) !=(k:Int))=false:=by simp only [bne_eq_false_iff_eq];exact h2
              clear h2
              have HX:=Za hxr
              have HLi:=Za L
              clear hxr L
              go_wp2_with fail
              refine wp_region_quiet_lit (by kernel_rfl) (by kernel_rfl) ?_
              try simp only [List.append_eq,List.cons_append,List.nil_append]
              repeat (go_big_quiet_step (fail))
              refine wpQuiet_nil ?_
              intro _ hw'
              obtain⟨nq,hw''⟩:=hw'
              subst hw''
              go_wp2_with fail
              go_roundw
              case rel=>exact⟨j+1,gx,cx,xs,by omega,by go_num,rfl,by omega,HX.out,below_drewN HLi.out _⟩
              case measure=>simp [intOf];omega
            · have hb2:((i:Int) !=(k:Int))=true:=by simp only [bne_iff_ne,ne_eq];exact h2
              clear h2
              have hwz:=L.size
              have HX:=Za hxr
              have HLi:=Za L
              have HS2:=Za (And.intro s0 (And.intro s1 (And.intro s2 (And.intro s3 s5))))
              clear hxr L
              go_wp2_with fail
              refine wp_region_quiet_lit (by kernel_rfl) (by kernel_rfl) ?_
              try simp only [List.append_eq,List.cons_append,List.nil_append]
              repeat (go_big_quiet_step (fail))
              refine wpQuiet_nil ?_
              intro _ hw'
              obtain⟨nq,hw''⟩:=hw'
              subst hw''
              obtain⟨V,hV⟩:∃V,(wr.drewN nq).alloc (.cells #[.int .i64 yn] 2)=V:=⟨_,rfl⟩
              have LV:Below wr.heap.size wr V:=by rw [<-hV];exact (below_drewN (Below.refl wr.heap.size wr) nq).alloc (Nat.le_refl _) _
              have NV:V.heap[wr.heap.size]? =some (.cells #[.int .i64 yn] 2 (0,0)):=by rw [<-hV];exact heap_alloc_new (wr.drewN nq) _
              have hsV:V.heap.size=wr.heap.size+1:=by rw [<-hV];simp
              have HXV:Hid (ZF wo.heap.size V gx cx xs):=Zip HX.out LV
              have HLV:=Za LV
              have hgx:=HX.out.lt
              clear LV
              go_wp2_with (at_builtin;refine wpList_append_lies _ rfl (.tmp 65) (.tmp 74) 27 rfl wo.heap.size 2 i0 _ 1 8 Tryz.underlying27 hi0 hz0 hz1 hz2 rfl (by omega) (.slice (some ⟨gx,0,none⟩) xs.length cx) xs.length (xs.map (Value.int .i64)) rfl HXV.out ⟨wr.heap.size,0,none⟩ 1 1 [.int .i64 yn] rfl rfl (World.news_of_block (cs:=#[.int .i64 yn]) (t:=2) (fr:=(0,0)) NV) (by simp [Value.oneCell']) (by omega) (by unfold maxLen;omega) (by omega) (by omega) V.heap.size rfl ?_;intro gg cc w8 hown hgrow hat hlt8)
              have HNX:Hid (ZF wo.heap.size w8 gg cc (xs++[yn])/\Below wo.heap.size wo w8):=by
               refine⟨Row.snoc hown,((HLi.out.trans (HLV.out.mono (by omega))).grown hgrow (by omega) (fun x hx=>?_))⟩
               have e':some gx=some x:=hx
               injection e' with e'
               omega
              have hxl2:(xs++[yn]).length=xs.length+1:=by simp
              clear hown hgrow hat hV
              go_roundw
              case rel=>exact⟨j+1,gg,cc,xs++[yn],by omega,by go_num,by rw [hxl2],by omega,HNX.out.1,HNX.out.2⟩
              case measure=>simp [intOf];omega
        · have hjl2:¬((j:Int)<(rl.length:Int)):=by omega
          have hbr:=World.frozen?_of_block (a:=⟨gl,i,none⟩) (L.block gl hglr.2)
          have f2:=hbr.trans hfri
          obtain⟨wq,hwq⟩:∃wq,wr.setCell ⟨gl,i,none⟩ (.slice (some ⟨gx,0,none⟩) xs.length cx)=wq:=⟨_,rfl⟩
          have HNX:Hid (w5.grownBy wq (some gl)/\ZaP (w.heap.size+1) wq gl cl (rs'.set i (gx,cx,xs))/\(rs'.set i (gx,cx,xs)).length=ls.length/\∀r∈rs'.set i (gx,cx,xs),r.2.2.length<=60):=by
           obtain⟨hlm,hrl',h60,hgr⟩:=HLMr.out
           refine⟨?_,?_,by rw [List.length_set];exact hrl',fun r hr=>?_⟩
           · have h1:=Zh hgr (Zw L (some gl))
             rw [<-hwq]
             exact Zh h1 (ZaT wr gl i _)
           · rw [<-hwq]
             refine hlm.over14 i hir (Ze5 hxr (by omega)) (Zw L _) (Or.inr hxr.lt.1)
           · rcases List.mem_or_eq_of_mem_set hr with h | h
             · exact h60 r h
             · rw [h];show xs.length<=60;omega
          have HWQ:=Za hwq
          clear hxr L hwq
          go_wp2_with fail
          rw [HWQ.out]
          go_roundw
          case rel=>exact⟨i+1,rs'.set i (gx,cx,xs),by omega,by go_num,HNX.out⟩
          case measure=>simp [intOf];omega
     · obtain rfl:i=ls.length:=by omega
       have hoth:∀b,b<w5.heap.size->b≠gl->wo.heap[b]? =w5.heap[b]? :=fun b h1 h2=>hgr.block b h1 (by simp;exact h2)
       have HWA:Hid (WA (w.heap.size+1) wo (some ⟨gm,0,none⟩) cm (some ⟨gl,0,none⟩) cl ms (ZaJ rs')):=by
        refine Or.inr ⟨gm,gl,rfl,rfl,HMH.out.blocks hsr (hoth gm hgml hgmgl) (fun x hx b cp hcl h1 h2=>hoth b h2 (HMB.out x hx b cp hcl)),⟨rs',hlm,rfl⟩,HA5.out.mc,by rw [Za0,hrl];exact HA5.out.lc,HA5.out.n9,by rw [Za0,hrl];exact HA5.out.l9,HA5.out.at5,fun x=>?_⟩
        rcases Nat.lt_or_ge x rs'.length with hx | hx
        · rw [Zd8 hx]
          have:=h60 _ (List.getElem_mem hx)
          omega
        · simp [cn,ZaJ,List.getD,hx]
       have hR2:Two wo w.heap.size (.slice none 0 0) (.slice none 0 0) 47:=(hoth _ (by omega) (by omega)).trans HR5.out
       have HC:Hid (Cur wo q ao n cap):=HC5.out.kept14 (hoth q (by have:=HGW5.out.size;omega) (by omega))
       have HG:Hid (w.grownBy wo (some q)):=by
        have h8:=HGW5.out
        exact⟨hgr.os.trans h8.os,hgr.tape.trans h8.tape,hgr.output.trans h8.output,by have:=h8.size;omega,fun b hb hbq=>(hoth b (by have:=h8.size;omega) (by omega)).trans (h8.block b hb hbq)⟩
       have a0:=hTr.c0
       have a1:=hTr.c1
       have HNN:Hid (ls.length=(ZaJ rs').length):=by show _=_;rw [Za0,hrl]
       clear hgr hlm h60 hTr hoth hrl
       have r0:=hR2.c0
       have r1:=hR2.c1
       have f0:=hR2.frozen 0
       have f1:=hR2.frozen 1
       have HR:=Za hR2
       clear hR2
       go_wp2_with fail
       rw [HNN.out]
       obtain⟨wy,hwy⟩:∃wy,wy=(wo.setCell ⟨w.heap.size,0,none⟩ (.slice (some ⟨gm,0,none⟩) ms.length cm)).setCell ⟨w.heap.size,1,none⟩ (.slice (some ⟨gl,0,none⟩) (ZaJ rs').length cl):=⟨_,rfl⟩
       rw [<-hwy]
       obtain⟨u1,u2,u3,y0,y1⟩:=Ze6 hq HR.out HC.out HG.out HWA.out hwy
       have HFIN:=Za (And.intro u1 (And.intro u2 u3))
       clear hwy u1 u2 u3
       refine bodyPost_ret (v:=.agg #[.slice (some ⟨gm,0,none⟩) ms.length cm,.slice (some ⟨gl,0,none⟩) (ZaJ rs').length cl]) (by simp [results,Tryz.results178,go_sem,y0,y1]) rfl ?_
       exact⟨⟨_,_,_,_,ms,(ZaJ rs'),rfl,HFIN.out.1⟩,HFIN.out.2⟩
   · 
    obtain⟨B,ds,B',rs,hb,hb',hD,hDm,hL,hNs,hAp⟩:=HWO.out
    have hrl:rs.length=ls.length:=by rw [<-hNs,Za0]
    have hkr:k<rs.length:=by omega
    obtain⟨r1x,rcx,rl⟩:∃a b,rs[k]=(a,b,cn ls k):=⟨rs[k].1,rs[k].2.1,by
     have e:cn ls k=rs[k].2.2:=by rw [<-hNs,Zd8 hkr]
     rw [e]⟩
    have hcell:w5.cell? ⟨gl,k,none⟩=some (.slice (some ⟨r1x,0,none⟩) (cn ls k).length rcx):=by
     have h:=hL.row.cell k hkr
     rw [rl] at h
     exact h
    have hfr:=World.ownsRow.frozenAt hL.row k
    have hLm:=hL.mono hb'
    have hgl:=hLm.row.lt
    have HIR:Hid (ZF (w.heap.size+1) w5 r1x rcx (cn ls k)):=by
     have h:=hLm.rows _ (List.getElem_mem hkr)
     rw [rl] at h
     exact h
    have hir:=HIR.out.lt
    have hoff:r1x≠gl:=by
     have h:=hL.off _ (List.getElem_mem hkr)
     rw [rl] at h
     exact h
    have hc60:=Ze4 HOK.out k
    have HLM:=Za (And.intro hLm (And.intro hrl (And.intro hNs rl)))
    have HDD:Hid (ZbH (w.heap.size+1) w5 gm ms ms.length/\∀i,i<ms.length->∀b cp,w5.cell? ⟨gm,i*2+1,none⟩=some (.slice (some ⟨b,0,none⟩) (mat ms i).length cp)->b≠r1x/\b≠gl):=by
     refine⟨HA5.out.mh,fun i hi b cp hcl=>?_⟩
     have hil:i<ds.length:=by rw [<-Zp,hDm];exact hi
     have h1:=(hD.cells i hil).2
     rw [h1] at hcl
     injection hcl with hcl
     injection hcl with hcl
     injection hcl with hcl
     injection hcl with hcl
     have h2:=hAp (Zk ds i).2.1 (Or.inr ⟨_,Za4 ds i hil,rfl⟩)
     rw [<-hcl]
     refine⟨?_,h2.1⟩
     have h3:=h2.2 _ (List.getElem_mem hkr)
     rw [rl] at h3
     exact h3
    have hgm:=hAp gm (Or.inl rfl)
    have hgmgl:=hgm.1
    have hgmr:gm≠r1x:=by
     have h3:=hgm.2 _ (List.getElem_mem hkr)
     rw [rl] at h3
     exact h3
    have hgml:=HA5.out.mh.2.1
    have hk0':(0:Int)<=(k:Int):=Int.natCast_nonneg _
    have hk1':(k:Int)<(ls.length:Int):=by omega
    obtain⟨i0,hi0,hz0,hz1,hz2⟩:=info_parts Tryz.info2
    have HB3:=Za (ZaV q ao n cap 20 w5.drew c5.drew (hV5:ZW w5 ao n) hn (by omega) (by omega))
    have hAl5:=hT5.lt
    have HT5:=Za hT5
    have HR5:=Za hR5
    have HGW5:=Za hG5
    have HS:Hid (∀W':World,(∀b,(b=A\/b=gl)->W'.heap[b]? =w5.heap[b]?)->W'.cell? ⟨A,1,none⟩=some (.slice (some ⟨gl,0,none⟩) ls.length cl)/\W'.cell? ⟨gl,k,none⟩=some (.slice (some ⟨r1x,0,none⟩) (cn ls k).length rcx)):=fun W' h=>⟨(World.cell?_of_block (h A (Or.inl rfl))).trans a1,(World.cell?_of_block (h gl (Or.inr rfl))).trans hcell⟩
    have hA9:A<w5.heap.size:=hAl5
    have hAr1:A≠r1x:=Zd9 hT5 (Zcm HIR.out) (by decide)
    have hAgl:A≠gl:=Zd9 hT5 (Zcm hL.row) (by decide)
    have hAgm:A≠gm:=Zd9 hT5 (Zcm hD.1) (by decide)
    clear hb hb' hD hDm hL hNs hAp hLm hT5 hR5 hG5 hV5 hgm hR2
    go_wp2_with fail
    refine ZT (S:=fun W'=>W'.cell? ⟨A,1,none⟩=some (.slice (some ⟨gl,0,none⟩) ls.length cl)/\W'.cell? ⟨gl,k,none⟩=some (.slice (some ⟨r1x,0,none⟩) (cn ls k).length rcx)) (fuel:=4)
     [0,1,2,3,4,5,6,7,8] _ rfl (by kernel_rfl) (by kernel_rfl) (by kernel_rfl) (by kernel_rfl) (by kernel_rfl) (by kernel_rfl) (by kernel_rfl) (HS.out _ (fun _ _=>rfl)) (fun _=>?_)
    iterate 9 (refine⟨_,rfl,?_⟩;apply Exists.intro;refine⟨Or.inl ⟨by rfl,fun w' hw'=>?_⟩,?_⟩;(focus (obtain⟨e1,e2⟩:=hw';first | (go_simp;done) | (go_simp;with_reducible rfl)));simp only [Act.put,List.setIfInBounds_toArray])
    refine Zc 9 (by kernel_rfl) rfl (fun K hK=>?_)
    go_simp
    refine HB3.out.mono ?_
    rintro e w6 ⟨⟨y,y0,y1,rfl⟩,c6,g6'⟩
    have g6:=ZcL g6'
    have hs6:=g6.size
    refine hK.out _ _ (HS.out _ (fun b hb=>g6.block b (by rcases hb with rfl | rfl <;> omega) (by simp;rcases hb with rfl | rfl <;> omega))) (fun _=>?_)
    clear hK K
    refine Zc 10 (by kernel_rfl) rfl (fun K hK=>?_)
    go_simp
    obtain⟨w7,hw7⟩:∃w7,w6.alloc (.cells #[.int .i64 y] 2)=w7:=⟨_,rfl⟩
    have L7:Below w6.heap.size w6 w7:=by rw [<-hw7];exact (Below.refl _ _).alloc (Nat.le_refl _) _
    have N7:w7.heap[w6.heap.size]? =some (.cells #[.int .i64 y] 2 (0,0)):=by rw [<-hw7];exact heap_alloc_new w6 _
    have hs7:w7.heap.size=w6.heap.size+1:=by rw [<-hw7];simp
    have g57:=Zh g6 (Zw L7 (some q))
    have c7:Cur w7 q ao n cap:=c6.kept14 (L7.block q (by omega))
    rw [hw7]
    clear hw7
    have hb7:∀b,b<w5.heap.size->b≠q->w7.heap[b]? =w5.heap[b]? :=fun b h1 h2=>g57.block b h1 (by simp;exact h2)
    refine hK.out _ _ (HS.out _ (fun b hb=>hb7 b (by rcases hb with rfl | rfl <;> omega) (by rcases hb with rfl | rfl <;> omega))) (fun _=>?_)
    clear hK K
    have HIR7:Hid (ZF (w.heap.size+1) w7 r1x rcx (cn ls k)):=World.ownsRow.kept HIR.out g57 (Or.inr (by simp [Value.ownBlock];omega))
    refine Zc 11 (by kernel_rfl) rfl (fun K hK=>?_)
    refine step_append_lies _ (by rfl) _ _ _ (by rfl) (w.heap.size+1) 2 i0 _ 1 8 Tryz.underlying27 hi0 hz0 hz1 hz2 rfl (by omega) (.slice (some ⟨r1x,0,none⟩) (cn ls k).length rcx) (cn ls k).length ((cn ls k).map (Value.int .i64)) (by rfl) HIR7.out ⟨w6.heap.size,0,none⟩ 1 1 [.int .i64 y] (by rfl) (by rfl) (World.news_of_block (cs:=#[.int .i64 y]) (t:=2) (fr:=(0,0)) N7) (by simp [Value.oneCell']) (by omega) (by unfold maxLen;omega) (by omega) (by omega) w7.heap.size rfl ?_
    intro gg cc w8 hown hgrow hat hlt8
    have hIe:ZF (w.heap.size+1) w8 gg cc (cn ls k++[y]):=Row.snoc hown
    have hs8:=hgrow.size
    have hb8:∀b,b<w5.heap.size->b≠q->b≠r1x->w8.heap[b]? =w5.heap[b]? :=fun b h1 h2 h3=>(hgrow.block b (by omega) (fun e=>by
     have e':some b=some r1x:=e
     injection e' with e'
     exact h3 e')).trans (hb7 b h1 h2)
    have hS8:=HS.out w8 (fun b hb=>hb8 b (by rcases hb with rfl | rfl <;> omega) (by rcases hb with rfl | rfl <;> omega) (by rcases hb with rfl | rfl;exact hAr1;exact fun e=>hoff e.symm))
    refine hK.out _ _ hS8 (fun _=>?_)
    clear hK K
    refine Zc 12 (by kernel_rfl) rfl (fun K hK=>?_)
    go_simp
    refine hK.out _ _ hS8 (fun _=>?_)
    clear hK K
    refine wpAnyH_done (by kernel_rfl) ?_ _
    simp only [Exit.then]
    have f8:w8.frozen? ⟨gl,k,none⟩=false:=(World.frozen?_of_block (hb8 gl (by omega) (by omega) (fun e=>hoff e.symm))).trans hfr
    have s8:=hS8.2
    obtain⟨w9,hw9⟩:∃w9,w8.setCell ⟨gl,k,none⟩ (.slice (some ⟨gg,0,none⟩) ((cn ls k).length+1) cc)=w9:=⟨_,rfl⟩
    have hrv:rwV (gg,cc,cn ls k++[y])=.slice (some ⟨gg,0,none⟩) ((cn ls k).length+1) cc:=by simp [rwV]
    obtain⟨hLm,hrl,hNs,rl⟩:=HLM.out
    have hL9:ZaP (w.heap.size+1) w9 gl cl (rs.set k (gg,cc,cn ls k++[y])):=by
     rw [<-hw9,<-hrv]
     refine (hLm.kept g57 (by simp;omega) (fun x hx=>by simp;have:=(hLm.rows x hx).lt;omega)).over14 k hkr hIe (by rw [rl];exact hgrow) ?_
     rw [rl]
     rcases hat with e | e
     · left
       have e':some r1x=some gg:=e
       injection e' with e'
     · right;omega
    have hls:ZaJ (rs.set k (gg,cc,cn ls k++[y]))=ls.set k (cn ls k++[y]):=by rw [ZaJ,List.map_set,<-ZaJ,hNs]
    have hb9:∀b,b<w5.heap.size->b≠q->b≠r1x->b≠gl->w9.heap[b]? =w5.heap[b]? :=fun b h1 h2 h3 h4=>by
     rw [<-hw9,Below.heap_setCell w8 ⟨gl,k,none⟩ _ b h4]
     exact hb8 b h1 h2 h3
    have hs9:w9.heap.size=w8.heap.size:=by rw [<-hw9,Zb]
    have HWA:Hid (WA (w.heap.size+1) w9 (some ⟨gm,0,none⟩) cm (some ⟨gl,0,none⟩) cl ms (ls.set k (cn ls k++[y]))):=by
     refine Or.inr ⟨gm,gl,rfl,rfl,HDD.out.1.blocks (by omega) (hb9 gm hgml (by have:=HDD.out.1.1;omega) hgmr hgmgl) (fun i hi b cp hcl h1 h2=>?_),⟨_,hL9,hls⟩,HA5.out.mc,by rw [List.length_set];exact HA5.out.lc,HA5.out.n9,by rw [List.length_set];exact HA5.out.l9,HA5.out.at5,fun i=>?_⟩
     · obtain⟨n1,n2⟩:=HDD.out.2 i hi b cp hcl
       exact hb9 b h2 (by omega) n1 n2
     · by_cases hik:i=k
       · rw [hik]
         simp [cn,List.getD,hkl]
         simp [cn,List.getD,hkl] at hc60
         omega
       · have e:cn (ls.set k (cn ls k++[y])) i=cn ls i:=by simp [cn,List.getD,Ne.symm hik]
         rw [e];exact HA5.out.cn61 i
    have hR2:Two w9 w.heap.size (.slice none 0 0) (.slice none 0 0) 47:=(hb9 _ (by omega) (by omega) (by omega) (by omega)).trans HR5.out
    have hT9:=(hb9 A hA9 (by omega) hAr1 hAgl).trans HT5.out
    have HC:Hid (Cur w9 q ao n cap):=c7.kept14 (by
     rw [<-hw9,Below.heap_setCell w8 ⟨gl,k,none⟩ _ q (by show q≠gl;omega)]
     exact hgrow.block q (by omega) (fun e=>by
      have e':some q=some r1x:=e
      injection e' with e'
      omega))
    have HG:Hid (w.grownBy w9 (some q)):=by
     have h8:=Zh HGW5.out g57
     have hz:=h8.size
     exact⟨by rw [<-hw9];exact hgrow.os.trans h8.os,by rw [<-hw9];exact hgrow.tape.trans h8.tape,by rw [<-hw9];exact hgrow.output.trans h8.output,by omega,fun b hb hbq=>(hb9 b (by have:=HGW5.out.size;omega) (fun e=>hbq (by rw [e])) (by omega) (by omega)).trans (HGW5.out.block b hb hbq)⟩
    have HW9:=Za hw9
    have HT9:Hid (Two w9 A (.slice (some ⟨gm,0,none⟩) ms.length cm) (.slice (some ⟨gl,0,none⟩) ls.length cl) 47):=hT9
    clear hS8 hb9 hb8 hb7 hgrow hat hown hIe hL9 hls hrv hT9 hw9 N7 L7 g57 g6 c6 c7 hLm hrl hNs rl a0 a1 hcell
    go_wp2_with fail
    rw [HW9.out]
    refine NoPanic.normal ?_
    try simp only [Exit.then]
    have a0:=HT9.out.c0
    have a1:=HT9.out.c1
    have r0:=hR2.c0
    have r1:=hR2.c1
    have f0:=hR2.frozen 0
    have f1:=hR2.frozen 1
    have HR:=Za hR2
    clear hR2
    go_wp2_with fail
    rw [show ls.length=(ls.set k (cn ls k++[y])).length by rw [List.length_set]]
    obtain⟨wy,hwy⟩:∃wy,wy=(w9.setCell ⟨w.heap.size,0,none⟩ (.slice (some ⟨gm,0,none⟩) ms.length cm)).setCell ⟨w.heap.size,1,none⟩ (.slice (some ⟨gl,0,none⟩) (ls.set k (cn ls k++[y])).length cl):=⟨_,rfl⟩
    rw [<-hwy]
    obtain⟨u1,u2,u3,y0,y1⟩:=Ze6 hq HR.out HC.out HG.out HWA.out hwy
    have HFIN:=Za (And.intro u1 (And.intro u2 u3))
    clear hwy u1 u2 u3
    refine bodyPost_ret (v:=.agg #[.slice (some ⟨gm,0,none⟩) ms.length cm,.slice (some ⟨gl,0,none⟩) (ls.set k (cn ls k++[y])).length cl]) (by simp [results,Tryz.results178,go_sem,y0,y1]) rfl ?_
    exact⟨⟨_,_,_,_,ms,(ls.set k (cn ls k++[y])),rfl,HFIN.out.1⟩,HFIN.out.2⟩
   · 
    obtain⟨B,ds,B',rs,hb,hb',hD,hDm,hL,hNs,hAp⟩:=HWO.out
    have hkm:k<ms.length:=by have:=HNL.out;omega
    have hMH:=HA5.out.mh
    obtain⟨hid,-⟩:=hMH.2.2.1 k hkm
    have hidb:=(ZG _ _).1 (ZM (ZJ HOK.out) hkm)
    have hfr:=World.ownsRow.frozenAt hD.1 (k*2)
    have hgm:=hAp gm (Or.inl rfl)
    have hgml:=hMH.2.1
    have hgmb:=hMH.1
    have hAgm:A≠gm:=Zd9 hT5 (Zcm hD.1) (by decide)
    have hk0':(0:Int)<=(k:Int):=Int.natCast_nonneg _
    have hk1':(k:Int)<(ms.length:Int):=by omega
    have hx:IntKind.i64.wrap (mid ms k+1)=mid ms k+1:=by rw [IntWalk.i64_in _ ⟨by omega,by omega⟩]
    have HT5:=Za hT5
    have HR5:=Za hR5
    have HGW5:=Za hG5
    have HC5:=Za c5
    have hAl5:=hT5.lt
    obtain⟨ms',hms'⟩:∃ms',ms'=ms.set k (mid ms k+1,mat ms k):=⟨_,rfl⟩
    have hml:ms.length=ms'.length:=by rw [hms',List.length_set]
    obtain⟨w6,hw6⟩:∃w6,w5.drew.setCell ⟨gm,k*2,none⟩ (.int .i64 (mid ms k+1))=w6:=⟨_,rfl⟩
    have hoth:∀b,b≠gm->w6.heap[b]? =w5.heap[b]? :=fun b hb=>by
     rw [<-hw6,Below.heap_setCell w5.drew ⟨gm,k*2,none⟩ _ b hb]
     rfl
    have hs6:w6.heap.size=w5.heap.size:=by rw [<-hw6,Zb];rfl
    have HWA:Hid (WA (w.heap.size+1) w6 (some ⟨gm,0,none⟩) cm (some ⟨gl,0,none⟩) cl ms' ls):=by
     have hmh:ZbH (w.heap.size+1) w6 gm ms' ms'.length:=by
      have h:=(show ZbH (w.heap.size+1) w5.drew gm ms ms.length from hMH).setId (y:=k) hkm (mid ms k+1)
      rw [hw6,<-hms',hml] at h
      exact h
     have hg6:w5.grownBy w6 (some gm):=⟨by rw [<-hw6];rfl,by rw [<-hw6];rfl,by rw [<-hw6];rfl,by omega,fun b hb hbq=>hoth b (fun e=>hbq (by rw [e]))⟩
     refine Or.inr ⟨gm,gl,rfl,rfl,hmh,⟨rs,(hL.mono hb').kept hg6 (fun e=>by injection e with e;exact hgm.1 e.symm) (fun x hx e=>by injection e with e;exact hgm.2 x hx e.symm),hNs⟩,by rw [<-hml];exact HA5.out.mc,HA5.out.lc,by rw [<-hml];exact HA5.out.n9,HA5.out.l9,fun j=>?_,HA5.out.cn61⟩
     rcases Nat.lt_or_ge j ms.length with hj | hj
     · rw [hms',Zjm ms k j _ hj]
       split
       · exact HA5.out.at5 k
       · exact HA5.out.at5 j
     · rw [hms']
       simp [mat,List.getD,hj]
    have hR6:Two w6 w.heap.size (.slice none 0 0) (.slice none 0 0) 47:=(hoth _ (by omega)).trans HR5.out
    have HT6:Hid (Two w6 A (.slice (some ⟨gm,0,none⟩) ms.length cm) (.slice (some ⟨gl,0,none⟩) ls.length cl) 47):=(hoth A hAgm).trans HT5.out
    have HC:Hid (Cur w6 q ao n cap):=HC5.out.kept14 (hoth q (by omega))
    have HG:Hid (w.grownBy w6 (some q)):=by
     have h8:=HGW5.out
     exact⟨by rw [<-hw6];exact h8.os,by rw [<-hw6];exact h8.tape,by rw [<-hw6];exact h8.output,by rw [hs6];exact h8.size,fun b hb hbq=>(hoth b (by omega)).trans (h8.block b hb hbq)⟩
    have HR6:=Za hR6
    have HW6:Hid ((w5.setCell ⟨gm,k*2,none⟩ (.int .i64 (mid ms k+1))).drew=w6):=hw6
    have hfd:w5.drew.frozen? ⟨gm,k*2,none⟩=false:=hfr
    have hidd:w5.drew.cell? ⟨gm,k*2,none⟩=some (.int .i64 (mid ms k)):=hid
    have HML:=Za hml
    clear hb hb' hD hDm hL hNs hAp hT5 hR5 hG5 hV5 hgm hR2 hoth hs6 hR6 hw6 hms' hMH hidb c5 hml
    generalize mid ms k=yid at *
    go_wp2_with fail
    refine ZT (S:=fun W'=>W'.cell? ⟨A,0,none⟩=some (.slice (some ⟨gm,0,none⟩) ms.length cm)/\W'.cell? ⟨gm,k*2,none⟩=some (.int .i64 yid)) (fuel:=2)
     [0,1,2,3,4,5,6,7,8,9] _ rfl (by kernel_rfl) (by kernel_rfl) (by kernel_rfl) (by kernel_rfl) (by kernel_rfl) (by kernel_rfl) (by kernel_rfl) ⟨a0,hid⟩ (fun hS=>?_)
    iterate 10 (refine⟨_,rfl,?_⟩;apply Exists.intro;refine⟨Or.inl ⟨by rfl,fun w' hw'=>?_⟩,?_⟩;(focus (obtain⟨e1,e2⟩:=hw';first | (go_simp;done) | (go_simp;with_reducible rfl)));simp only [Act.put,List.setIfInBounds_toArray])
    refine Zc 10 (by kernel_rfl) rfl (fun K hK=>?_)
    go_simp
    refine hK.out _ _ hS (fun _=>?_)
    clear hK K
    refine Zc 11 (by kernel_rfl) rfl (fun K hK=>?_)
    go_simp
    refine hK.out _ _ hS (fun _=>?_)
    clear hK K
    refine wpAnyH_done (by kernel_rfl) ?_ _
    simp only [Exit.then]
    clear a0 a1 hS
    go_wp2_with fail
    rw [HW6.out]
    refine NoPanic.normal ?_
    try simp only [Exit.then]
    have a0:=HT6.out.c0
    have a1:=HT6.out.c1
    have hR2:=HR6.out
    have r0:=hR2.c0
    have r1:=hR2.c1
    have f0:=hR2.frozen 0
    have f1:=hR2.frozen 1
    have HR:=Za hR2
    clear hR2
    go_wp2_with fail
    rw [HML.out]
    obtain⟨wy,hwy⟩:∃wy,wy=(w6.setCell ⟨w.heap.size,0,none⟩ (.slice (some ⟨gm,0,none⟩) ms'.length cm)).setCell ⟨w.heap.size,1,none⟩ (.slice (some ⟨gl,0,none⟩) ls.length cl):=⟨_,rfl⟩
    rw [<-hwy]
    obtain⟨u1,u2,u3,y0,y1⟩:=Ze6 hq HR.out HC.out HG.out HWA.out hwy
    have HFIN:=Za (And.intro u1 (And.intro u2 u3))
    clear hwy u1 u2 u3
    refine bodyPost_ret (v:=.agg #[.slice (some ⟨gm,0,none⟩) ms'.length cm,.slice (some ⟨gl,0,none⟩) ls.length cl]) (by simp [results,Tryz.results178,go_sem,y0,y1]) rfl ?_
    exact⟨⟨_,_,_,_,ms',ls,rfl,HFIN.out.1⟩,HFIN.out.2⟩
end Go.Proofs.YtaaagmgglolibaaGreat
