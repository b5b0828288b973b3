import Derived.Test.YtilkaeclgmcolaaGreatGnCpyZz
import Derived.Test.YtilkaeclgmcolaaGreatTwArgsZz
import Derived.Test.YtilkaeclgmcolaaGreatBMarkZz
import Derived.Test.YtilkaeclgmcolaaGreatLastZz
import Derived.Test.YtilkaeclgmcolaaGreatFeHelpZz
import Derived.Test.YtilkaeclgmcolaaGreatLkWebZz
import Derived.Test.YtilkaeclgmcolaaGreatCmMemZz
import Derived.Test.YtilkaeclgmcolaaGreatDkOkZz
import Derived.Test.YtilkaeclgmcolaaGreatStMarkZz
import Derived.Test.YtilkaeclgmcolaaGreatCopyZz
import Derived.Test.YtilkaeclgmcolaaGreatMMarkZz
set_option maxRecDepth 100000
set_option maxHeartbeats 16000000
namespace Go.Proofs.YtilkaeclgmcolaaGreat
open Go Go.RowKit
theorem ZkQ{w:World}{q:Nat}{a b c d e a' b' c' d' e':Value}{t:TypeId}(h:w.heap[q]? =some (.cells #[a,b,c,d,e] t)):(((((w.setCell ⟨q,0,none⟩ a').setCell ⟨q,1,none⟩ b').setCell ⟨q,2,none⟩ c').setCell ⟨q,3,none⟩ d').setCell ⟨q,4,none⟩ e').heap[q]? =some (.cells #[a',b',c',d',e'] t):=by
 simp [World.setCell,Array.getElem?_modify,h]
theorem ZkR{w:World}{q b:Nat}{a' b' c' d' e':Value}(h:b≠q):(((((w.setCell ⟨q,0,none⟩ a').setCell ⟨q,1,none⟩ b').setCell ⟨q,2,none⟩ c').setCell ⟨q,3,none⟩ d').setCell ⟨q,4,none⟩ e').heap[b]? =w.heap[b]? :=by
 rw [Below.heap_setCell _ ⟨q,4,none⟩ _ b h,Below.heap_setCell _ ⟨q,3,none⟩ _ b h,Below.heap_setCell _ ⟨q,2,none⟩ _ b h,Below.heap_setCell _ ⟨q,1,none⟩ _ b h,Below.heap_setCell _ ⟨q,0,none⟩ _ b h]
def ZmB(base:Nat)(w:World)(gm c:Nat)(vt:Value)(ds:List Dm)(ts:List Wb):Prop:=
 ∃B,Z2 base w gm c ds/\Zg9 B w vt ts/\gm<B/\(∀d∈ds,d.2.1<B)/\base<=B
theorem Zg9.stay{base:Nat}{w w':World}{v:Value}{ts:List Wb}(h:Zg9 base w v ts)(hs:w.heap.size<=w'.heap.size)(e:∀b,base<=b->b<w.heap.size->w'.heap[b]? =w.heap[b]?):Zg9 base w' v ts:=by
 obtain⟨S,c,d,h⟩:=h
 exact⟨S,c,d,h.sm ⟨hs,fun b a=>e b (h.bnd b a).1 (h.bnd b a).2⟩⟩
theorem Zg9.form{base:Nat}{w:World}{v:Value}{ts:List Wb}(h:Zg9 base w v ts):∃a c,v=.slice a ts.length c/\ts.length<=c/\Zp true w a ts:=by
 obtain⟨S,b,d,h⟩:=h
 exact h.form
theorem ZmB.stay{base:Nat}{w w':World}{gm c:Nat}{vt:Value}{ds:List Dm}{ts:List Wb}(h:ZmB base w gm c vt ds ts)(hs:w.heap.size<=w'.heap.size)(e:∀b,base<=b->b<w.heap.size->w'.heap[b]? =w.heap[b]?):ZmB base w' gm c vt ds ts:=by
 obtain⟨B,d,f,i,g,j⟩:=h
 exact⟨B,Zdm d e,f.stay hs (fun b k a=>e b (by omega) a),i,g,j⟩
theorem Zpi(v:Bool)(am aw:Option Addr)(cm cw:Nat)(wd:Int)(ms:List Mk)(d:Int)(ts:List Wb)(nx:Int)(w:World)(hm:Zo w am ms)(hv:Zp v w aw ts)(hmb:Zt ms=true)(hok:Zap d ts=true):
 Calls Tryz.prog 78 #[.agg #[.int .i64 wd,.slice am ms.length cm,.int .i64 d,.slice aw ts.length cw,.int .i64 nx]] w fun e w'=>∃gm c vt,e=.returned (.agg #[.int .i64 wd,.slice (some ⟨gm,0,none⟩) ms.length c,.int .i64 d,vt,.int .i64 nx])/\(∃ds,Zs ds=ms/\ZmB (w.heap.size+1+1) w' gm c vt ds ts)/\Below w.heap.size w w':=by
 obtain⟨t,g⟩:∃W,w.alloc (.cells #[.int .i64 wd,.slice am ms.length cm,.int .i64 d,.slice aw ts.length cw,.int .i64 nx] 41)=W:=⟨_,rfl⟩
 have B:=balZ g
 have J:ZbA v t w.heap.size am aw cm cw wd ms d ts nx:=by rw [<-g];exact ZbA.box hm hv
 obtain⟨W,L⟩:∃W,t.alloc (.cells #[.int .i64 0,.slice none 0 0,.int .i64 0,.slice none 0 0,.int .i64 0] 41)=W:=⟨_,rfl⟩
 have r:=balZ L
 have s1:=salZ g
 have s2:W.heap.size=w.heap.size+1+1:=by rw [<-L];simp [s1]
 have X:=nal2Z L s1
 have j:=J.below r
 have F:=ZF hmb
 have h4:∀i,(mat ms i).length<=4:=fun i=>by
  rcases Nat.lt_or_ge i ms.length with hi | hi
  · exact (ZaP ((ZZ ms i).1 (Zam hmb hi)).2.2.1).2
  · have:mat ms i=[]:=by simp [mat,List.getD,hi]
    rw [this];simp
 have HB:=Za (Zb B r)
 have HI:=Za j
 have q:=Za X
 have U:=Za s2
 have x:=Za (Zma am cm ms W.drew (j.below (Below.refl _ _).drew).mv F h4)
 have y:Hid (∀a,Below W.heap.size W a->Calls Tryz.prog 122 #[.agg #[.int .i64 d,.slice aw ts.length cw]] a fun e w'=>∃vt,e=.returned (.agg #[.int .i64 d,vt])/\Zg9 a.heap.size w' vt ts/\Below a.heap.size a w'):=fun a o=>Zmv v aw cw d ts a ((j.below o).wv) hok
 have G:Hid (∀a,Below W.heap.size W a->a.cell? ⟨w.heap.size,0,none⟩=some (.int .i64 wd)/\a.cell? ⟨w.heap.size,1,none⟩=some (.slice am ms.length cm)/\a.cell? ⟨w.heap.size,2,none⟩=some (.int .i64 d)/\a.cell? ⟨w.heap.size,3,none⟩=some (.slice aw ts.length cw)/\a.cell? ⟨w.heap.size,4,none⟩=some (.int .i64 nx)):=fun a o=>⟨(j.below o).c0,(j.below o).c1,(j.below o).c2,(j.below o).c3,(j.below o).c4⟩
 have BL:=Za ((Below.refl W.heap.size W).drew)
 have z:Hid _:=aw2Z g L
 clear hm hv B J r X j s1 s2 L g hok F hmb h4
 go_enter Tryz.func78,Tryz.ntmps78
 go_upto_region 1 with fail
 rw [z.out]
 clear z
 refine Zao (S:=fun a=>a.cell? ⟨w.heap.size,0,none⟩=some (.int .i64 wd)/\a.cell? ⟨w.heap.size,1,none⟩=some (.slice am ms.length cm)/\a.cell? ⟨w.heap.size,2,none⟩=some (.int .i64 d)/\a.cell? ⟨w.heap.size,3,none⟩=some (.slice aw ts.length cw)/\a.cell? ⟨w.heap.size,4,none⟩=some (.int .i64 nx)) (fuel:=3)
  [0,1,2,3,5,6,8,9] _ rfl (by kernel_rfl) (by kernel_rfl) (by kernel_rfl) (by kernel_rfl) (by kernel_rfl) (by kernel_rfl) (by kernel_rfl) (G.out _ BL.out) (fun _=>?_)
 iterate 8 (refine⟨_,rfl,?_⟩;apply Exists.intro;refine⟨Or.inl ⟨by rfl,fun w' V=>?_⟩,?_⟩;(focus (obtain⟨e1,e2,e3,e4,e5⟩:=V;go_simp<;>with_reducible rfl));simp only [Act.put,List.setIfInBounds_toArray])
 refine Zc 4 (by kernel_rfl) rfl (fun K m=>?_)
 go_simp
 refine x.out.mono ?_
 rintro e T ⟨gm,c,ds,rfl,E,A,Y⟩
 have Z:=Za (And.intro E A)
 have l:Hid (Below W.heap.size W T):=Zb BL.out Y
 have n:=Za (y.out T l.out)
 clear E A Y
 refine m.out _ _ (G.out _ l.out) (fun _=>?_)
 clear m K
 refine Zc 7 (by kernel_rfl) rfl (fun K m=>?_)
 go_simp
 refine n.out.mono ?_
 rintro e C ⟨vt,rfl,s,Q⟩
 obtain⟨N,O,rfl,-,-⟩:=s.form
 have f:Hid (ZmB W.heap.size C gm c (.slice N ts.length O) ds ts/\Below W.heap.size W C):=by
  have h:=Z.out.1
  exact⟨⟨T.heap.size,Zdm (base:=W.heap.size) h (fun b _ P=>Q.block b P),s,h.lt.2,fun d hd=>(h.2.1 d hd).1.lt2.2,l.out.size⟩,Zb l.out Q⟩
 clear s Q
 refine m.out _ _ (G.out _ f.out.2) (fun _=>?_)
 clear m K
 refine Zc 10 (by kernel_rfl) rfl (fun K m=>?_)
 go_simp
 refine m.out _ _ (G.out _ f.out.2) (fun _=>?_)
 clear m K
 refine wpAnyH_done (by kernel_rfl) ?_ _
 simp only [Exit.then]
 have M:=(f.out.2.block _ (Zk q.out).2.2.2.2.2.2).trans q.out
 obtain⟨r0,r1,r2,r3,r4,u,a9⟩:=Zk M
 have ae:=u 0
 have a4:=u 1
 have a8:=u 2
 have ai:=u 3
 have aa:=u 4
 have t5:_=some (Obj.cells #[.int .i64 wd,.slice (some ⟨gm,0,none⟩) ms.length c,.int .i64 d,.slice N ts.length O,.int .i64 nx] 41):=ZkQ M
 obtain⟨q0,q1,q2,q3,q4,-,-⟩:=Zk t5
 have ad:=Za M
 clear M t5 u q G y n x
 go_wp2_with fail
 refine NoPanic.normal ?_
 go_wp2_with fail
 refine bodyPost_ret (v:=.agg #[.int .i64 wd,.slice (some ⟨gm,0,none⟩) ms.length c,.int .i64 d,.slice N ts.length O,.int .i64 nx]) (by simp [results,Tryz.results78,go_sem,q0,q1,q2,q3,q4]) rfl ?_
 obtain⟨H,k⟩:∃H,((((C.setCell ⟨w.heap.size+1,0,none⟩ (.int .i64 wd)).setCell ⟨w.heap.size+1,1,none⟩ (.slice (some ⟨gm,0,none⟩) ms.length c)).setCell ⟨w.heap.size+1,2,none⟩ (.int .i64 d)).setCell ⟨w.heap.size+1,3,none⟩ (.slice N ts.length O)).setCell ⟨w.heap.size+1,4,none⟩ (.int .i64 nx)=H:=⟨_,rfl⟩
 have far:∀b,b≠w.heap.size+1->H.heap[b]? =C.heap[b]? :=fun b P=>by rw [<-k];exact ZkR P
 have a3:H.heap.size=C.heap.size:=by rw [<-k];simp [World.setCell]
 have R:=U.out
 have BZ:Below w.heap.size w H:=by
  have D:w.heap.size<=w.heap.size+1:=by omega
  rw [<-k];exact ((((((Zb HB.out f.out.2).setCell (p:=⟨w.heap.size+1,0,none⟩) D _).setCell (p:=⟨w.heap.size+1,1,none⟩) D _).setCell (p:=⟨w.heap.size+1,2,none⟩) D _).setCell (p:=⟨w.heap.size+1,3,none⟩) D _).setCell (p:=⟨w.heap.size+1,4,none⟩) D _)
 rw [k]
 have I:=f.out.1
 rw [R] at I
 exact⟨gm,c,_,rfl,⟨ds,Z.out.2,I.stay (by omega) (fun b P _=>far b (by omega))⟩,BZ⟩
theorem Zia(ds:List Dm):∀u∈ZG ds,u.oneCell'=true:=by
 induction ds with
 | nil=>intro u a;cases a
 | cons d ds ih=>
   intro u a
   simp only [ZG,List.mem_cons] at a
   rcases a with rfl | rfl | a
   · rfl
   · rfl
   · exact ih u a
theorem Zib{base:Nat}{w:World}{g c n:Nat}{ds es:List Dm}(h:w.ownsRow base 161 2 (.slice (some ⟨g,0,none⟩) n c) n (ZG ds))(k:Nat)(hk:k+es.length<=n)(he:∀i,i<es.length->Zu es i=Zu ds (k+i))(hd:ds.length=n):ZX w 2 (some ⟨g,k*2,none⟩) es.length (ZG es):=
 ⟨Zcw es,Zia es,Or.inr ⟨_,rfl,fun j u hu=>by
  rw [Go.WideShapes.add_plain]
  have hj:j<es.length*2:=by
   rcases Nat.lt_or_ge j (es.length*2) with h1 | h1
   · exact h1
   · rw [List.getElem?_eq_none (by rw [Zcw];exact h1)] at hu;cases hu
  have hi:j / 2<es.length:=by omega
  obtain⟨a0,a1⟩:=Zcz es (j / 2) hi
  obtain⟨b0,b1⟩:=Zcz ds (k+j / 2) (by omega)
  rw [<-he _ hi] at b0 b1
  rcases Nat.mod_two_eq_zero_or_one j with e | e
  · have ej:j=j / 2*2:=by omega
    rw [<-hu]
    have:=World.ownsRow.cellAt h ((k+j / 2)*2) (by omega)
    rw [b0,<-a0,<-ej] at this
    rw [show k*2+j=(k+j / 2)*2 by omega]
    exact this
  · have ej:j=j / 2*2+1:=by omega
    rw [<-hu]
    have:=World.ownsRow.cellAt h ((k+j / 2)*2+1) (by omega)
    rw [b1,<-a1,<-ej] at this
    rw [show k*2+j=(k+j / 2)*2+1 by omega]
    exact this⟩⟩
theorem Zd4{w w':World}{size m g off:Nat}{news:List Value}(h:ZX w size (some ⟨g,off,none⟩) m news)(e:w'.heap[g]? =w.heap[g]?):ZX w' size (some ⟨g,off,none⟩) m news:=by
 obtain⟨c,d,k | ⟨l,b,i⟩⟩:=h
 · exact⟨c,d,Or.inl k⟩
 · refine⟨c,d,Or.inr ⟨l,b,fun j u f=>?_⟩⟩
   have:=i j u f
   injection b with b
   rw [<-b,Go.WideShapes.add_plain] at this ⊢
   exact (World.cell?_of_block (a:=⟨g,off+j,none⟩) e).trans this
theorem Zjg(ds:List Dm)(k i:Nat)(h:i<k):Zu (ds.take k) i=Zu ds i:=by simp [Zu,List.getD,h]
theorem Zjh(ds:List Dm)(k i:Nat):Zu (ds.drop k) i=Zu ds (k+i):=by simp [Zu,List.getD]
def kpB(wd nx d:Int)(p:List Int)(ts:List Wb):Bool:=okB p && decide ((p.length:Int)=wd) && !decide (nx=1000000) && ZcX (nx,p) ts d
theorem Zcp{base:Nat}{w w':World}{g c:Nat}{xs:List Int}(h:ZQ base w g c xs)(e:w'.heap[g]? =w.heap[g]?):ZQ base w' g c xs:=Zci h (fun q hq=>by injection hq with hq;rw [<-hq];exact e)
theorem ZbY.step{base:Nat}{w w2:World}{a:Option Addr}{ts:List Wb}(h:ZbY base w a ts)(hs:w.heap.size<=w2.heap.size)(e:∀b,base<=b->b<w.heap.size->w2.heap[b]? =w.heap[b]?):ZbY base w2 a ts:=
 fun w' h1 h2=>h w' (Nat.le_trans hs h1) (fun b hb1 hb2=>(h2 b hb1 (by omega)).trans (e b hb1 hb2))
theorem Zgs{base base':Nat}{w:World}{a:Option Addr}{ts:List Wb}(h:ZbY base w a ts)(hb:base'<=base):ZbY base' w a ts:=
 fun w' h1 h2=>h w' h1 (fun b hb1 hb2=>h2 b (by omega) hb2)
theorem ZkS{base base' X:Nat}{w w2:World}{a:Option Addr}{ts:List Wb}(h:ZbY base w a ts)(hX:X<base)(hb:base'<=base)(_:base'<=X)(hs:w.heap.size<=w2.heap.size)(e:∀b,b≠X->w2.heap[b]? =w.heap[b]?):ZbY base' w2 a ts:=
 Zgs (h.step hs (fun b h1 _=>e b (by omega))) hb
theorem Zji{base D:Nat}{w w':World}{g c:Nat}{ds:List Dm}(h:Z2 base w g c ds)(_:w.heap.size<=w'.heap.size)(e:∀b,base<=b->b<w.heap.size->b≠D->w'.heap[b]? =w.heap[b]?)(hg:g≠D)(hp:∀x∈ds,x.2.1≠D):Z2 base w' g c ds:=
 ⟨Zaz h.1 (e g h.lt.1 h.lt.2 hg),fun d hd=>⟨(h.2.1 d hd).1.same (e d.2.1 (h.2.1 d hd).1.lt2.1 (h.2.1 d hd).1.lt2.2 (hp d hd)),(h.2.1 d hd).2⟩,h.2.2⟩
def kpMs(b:Bool)(ms:List Mk)(nx:Int)(p:List Int):List Mk:=if b=true then ms++[(nx,p)] else ms
def kpDd(b:Bool)(nx:Int)(p:List Int)(ts:List Wb)(d:Int):Int:=if b=true then ZfC (nx,p) ts d else d
def kpTs(b:Bool)(nx:Int)(p:List Int)(ts:List Wb)(d:Int):List Wb:=if b=true then Zb2 (nx,p) ts d else ts
def kpNx(b:Bool)(nx:Int):Int:=if b=true then nx+1 else nx
def kpRr(b:Bool)(nx:Int):Int:=if b=true then nx else -1
theorem Zic{wd:Int}{ms:List Mk}{d:Int}{ts:List Wb}{nx:Int}(h:stB wd ms d ts nx=true):0<=nx/\nx<=1000000:=by
 simp only [stB,inR,Bool.and_eq_true,decide_eq_true_eq] at h
 omega
theorem ZfE{m:Mk}{ts:List Wb}{d:Int}(hok:Zap d ts=true)(h:ZcX m ts d=true):Zt ((Zi ts 0).1++[m])=true:=
 Zje h 0 (by have:=(Ze8 (Zhc hok)).2.1;omega)
theorem ZmC{m:Mk}{ts:List Wb}{d:Int}(hok:Zap d ts=true)(h:ZcX m ts d=true):okB m.2=true:=by
 have a:=((ZZ _ _).1 (Zam (ZfE hok h) (i:=(Zi ts 0).1.length) (by simp))).2.2.1
 have e:mat ((Zi ts 0).1++[m]) (Zi ts 0).1.length=m.2:=by simp [mat,List.getD]
 rw [e] at a
 exact a
theorem ZfF{wd:Int}{ms:List Mk}{d:Int}{ts:List Wb}{nx:Int}(h:stB wd ms d ts nx=true):ms.length<=(Zi ts 0).1.length:=by
 obtain⟨g,_,_,l⟩:=ZaY h
 have k:(ms.map (·.1)).length<=(Zi ts 0).1.length:=by
  refine Zer ?_ (fun x q=>?_)
  · refine List.pairwise_iff_getElem.2 (fun i j c f o e=>?_)
    rw [List.length_map] at c f
    have p:mid ms i=mid ms j:=by simpa [mid,List.getD,c,f] using e
    have a:=(ZaF g c).2
    have b:=(ZaF g f).2
    rw [p] at a
    omega
  · obtain⟨m,n,rfl⟩:=List.mem_map.1 q
    rw [ZaR,List.all_eq_true] at l
    exact (Zdn.1 (l m n)).1
 rw [List.length_map] at k
 exact k
theorem ZfG{base base':Nat}{w:World}{g c:Nat}{xs:List Int}(h:ZQ base w g c xs)(hb:base'<=base):ZQ base' w g c xs:=⟨h.1,h.2.imp id fun ⟨g,cap,cur,h1,h2,h3⟩=>⟨g,cap,cur,h1,Nat.le_trans hb h2,h3⟩⟩
def OwK(lo hi:Nat)(w:World)(g:Nat)(vt:Value)(ms:List Mk)(ts:List Wb):Prop:=∃ds F,Zs ds=ms/\Z2 lo w g ms.length ds/\TsO true F w vt ts/\(∀b,FtM g ds b->lo<=b/\b<hi/\¬F b)/\∀b,F b->lo<=b/\b<hi
theorem Zes{base:Nat}{w w':World}{g c:Nat}{ds:List Dm}(h:Z2 base w g c ds)(e:∀b,FtM g ds b->w'.heap[b]? =w.heap[b]?):Z2 base w' g c ds:=
 ⟨Zaz h.1 (e g (Or.inl rfl)),fun d hd=>⟨(h.2.1 d hd).1.same (e d.2.1 (by
  obtain⟨i,hi,rfl⟩:=List.getElem_of_mem hd
  exact Or.inr ⟨i,hi,by simp [Zu,List.getD,hi]⟩)),(h.2.1 d hd).2⟩,h.2.2⟩
theorem OwK.sm{lo hi:Nat}{w w':World}{g:Nat}{vt:Value}{ms:List Mk}{ts:List Wb}(h:OwK lo hi w g vt ms ts)(hs:w.heap.size<=w'.heap.size)(e:∀b,lo<=b->b<hi->w'.heap[b]? =w.heap[b]?):OwK lo hi w' g vt ms ts:=by
 obtain⟨i,F,f,j,k,c,d⟩:=h
 exact⟨i,F,f,Zes j (fun b a=>e b (c b a).1 (c b a).2.1),k.sm ⟨hs,fun b a=>e b (d b a).1 (d b a).2⟩,c,d⟩
theorem ZbO{base:Nat}{w:World}{g c:Nat}{ds:List Dm}(h:Z2 base w g c ds):ZbT base w g c ds:=by
 have d:∀i,i<ds.length->Zu ds i∈ds:=fun i a=>by
  have e:Zu ds i=ds[i]:=by simp [Zu,List.getD,a]
  rw [e];exact List.getElem_mem a
 refine⟨h.1,fun i a=>(h.2.1 _ (d i a)).1,fun i a=>(h.2.1 _ (d i a)).2,fun i j a b k=>?_⟩
 have f:=List.pairwise_iff_getElem.1 h.2.2
 have m:Zu ds i=ds[i]:=by simp [Zu,List.getD,a]
 have l:Zu ds j=ds[j]:=by simp [Zu,List.getD,b]
 rw [m,l]
 rcases Nat.lt_or_ge i j with e | e
 · have:=f i j a b e;omega
 · have:=f j i b a (by omega);omega
theorem Zdo{base:Nat}{w:World}{g:Nat}{vt:Value}{ms:List Mk}{ts:List Wb}(h:Zid base w g vt ms ts)(hmb:Zt ms=true):∃ta tc,vt=.slice ta ts.length tc/\OwK base w.heap.size w g (.slice ta ts.length tc) ms ts:=by
 obtain⟨G,a,z,A,F,d,f,r,p⟩:=h
 obtain⟨ta,tc,rfl,-,-⟩:=f.view
 have u:=ZF hmb
 have c:=d.own (by unfold maxLen;omega)
 obtain⟨-,-,o,n,-⟩:=ZmD d hmb
 refine⟨ta,tc,rfl,ZaK ms G a,F,ZbB ms G a,⟨c.row,fun x v=>?_,?_⟩,f,fun b k=>?_,fun b k=>⟨(r b k).1,f.bnd b k⟩⟩
 · obtain⟨i,l,rfl⟩:=List.getElem_of_mem v
   have e:(ZaK ms G a)[i]=Zu (ZaK ms G a) i:=by simp [Zu,List.getD,l]
   rw [e]
   exact⟨c.rows i l,c.off i l⟩
 · refine List.pairwise_iff_getElem.2 (fun i j l t m=>?_)
   have e:(ZaK ms G a)[i]=Zu (ZaK ms G a) i:=by simp [Zu,List.getD,l]
   have y:(ZaK ms G a)[j]=Zu (ZaK ms G a) j:=by simp [Zu,List.getD,t]
   have B:=Za5 ms G a
   rw [e,y,ZbJ (by omega),ZbJ (by omega)]
   exact d.rise i j m (by omega)
 · have q:=o b k
   have s:=(Za6 c b k).1
   refine⟨s,n b k,fun h=>?_⟩
   have C:=(r b h).2
   rcases q with rfl | q
   · exact p h
   · omega
theorem Zhd{base Z g c n:Nat}{w:World}{vt:Value}{G:Nat->Prop}{es:List Dm}{ms:List Mk}{ts:List Wb}(wd d nx:Int)(hd:Z2 base w g c es)(hes:Zs es=ms)(hn:n=ms.length)(h60:ms.length<=60)(hat:∀x∈ms,x.2.length<=4)(ht:TsO true G w vt ts)(hF:∀b,FtM g es b->Z<=b/\¬G b)(hG:∀b,G b->Z<=b):
 StO true (Btw Z w.heap.size) w (.agg #[.int .i64 wd,.slice (some ⟨g,0,none⟩) n c,.int .i64 d,vt,.int .i64 nx]) wd ms d ts nx:=by
 subst hn
 have h:=ZbO hd
 have j:es.length=ms.length:=by rw [<-hes,ZI]
 have f:=Zc7 h (by omega) (by rw [hes];exact hat)
 rw [j,hes] at f
 have e:ms.length<=c:=by
  obtain⟨-,⟨x,-⟩ | ⟨o,cap,l,x,-,-,m,-⟩⟩:=hd.1
  · cases x
  · injection x with x1 x2 x3;omega
 refine StO.of wd d nx (fun _=>f) (Nat.le_trans (ZcJ _ 60 4 h60 hat) (by omega)) e (fun p k=>?_) ht (fun b a=>a.2) (fun b a=>⟨(hF b a).1,(Za6 h b a).2⟩) (fun b a=>⟨hG b a,ht.bnd b a⟩) (fun b a i=>(hF b a).2 i)
 have:=(Zcq h k).view
 rw [hes] at this
 exact this
theorem ZaS{ms:List Mk}(h:Zt ms=true):∀x∈ms,x.2.length<=4:=fun x hx=>by
 obtain⟨i,hi,rfl⟩:=List.getElem_of_mem hx
 have:=(ZaP ((ZZ _ _).1 (Zam h hi)).2.2.1).2
 simpa [mat,List.getD,hi] using this
theorem ZkT{W0 U V:World}{Ob Mb g lo hi tc:Nat}{ta:Option Addr}{wd d nx:Int}{ms:List Mk}{ts:List Wb}(hO:U.heap[Ob]? =some (.cells #[.int .i64 0,.slice none 0 0,.int .i64 0,.slice none 0 0,.int .i64 0] 41))(hM:Two U Mb (.int .i64 0) (.slice none 0 0) 161)(hok:OwK lo hi U g (.slice ta ts.length tc) ms ts)(h1:W0.heap.size<=Ob)(h2:Ob≠Mb)(h3:¬(lo<=Ob/\Ob<hi))(BU:Below W0.heap.size W0 U)(hV:((((U.setCell ⟨Ob,0,none⟩ (.int .i64 wd)).setCell ⟨Ob,1,none⟩ (.slice (some ⟨g,0,none⟩) ms.length ms.length)).setCell ⟨Ob,2,none⟩ (.int .i64 d)).setCell ⟨Ob,3,none⟩ (.slice ta ts.length tc)).setCell ⟨Ob,4,none⟩ (.int .i64 nx)=V):
 V.heap[Ob]? =some (.cells #[.int .i64 wd,.slice (some ⟨g,0,none⟩) ms.length ms.length,.int .i64 d,.slice ta ts.length tc,.int .i64 nx] 41)/\Two V Mb (.int .i64 0) (.slice none 0 0) 161/\OwK lo hi V g (.slice ta ts.length tc) ms ts/\V.heap.size=U.heap.size/\Below W0.heap.size W0 V:=by
 have far:∀b,b≠Ob->V.heap[b]? =U.heap[b]? :=fun b a=>by rw [<-hV];exact ZaB a
 have c:V.heap.size=U.heap.size:=by rw [<-hV];simp [World.setCell]
 exact⟨by rw [<-hV];exact ZaG hO,(far Mb (fun e=>h2 e.symm)).trans hM,hok.sm (by omega) (fun b x y=>far b (by omega)),c,by rw [<-hV];exact (((((BU.setCell (p:=⟨Ob,0,none⟩) h1 _).setCell (p:=⟨Ob,1,none⟩) h1 _).setCell (p:=⟨Ob,2,none⟩) h1 _).setCell (p:=⟨Ob,3,none⟩) h1 _).setCell (p:=⟨Ob,4,none⟩) h1 _)⟩
theorem ZkU{W0 U V:World}{Ob Mb g lo hi tc n c:Nat}{ta ap:Option Addr}{wd d nx:Int}{vs:Value}{ms:List Mk}{ts:List Wb}(hO:U.heap[Ob]? =some (.cells #[.int .i64 wd,vs,.int .i64 d,.slice ta ts.length tc,.int .i64 nx] 41))(hM:Two U Mb (.int .i64 0) (.slice none 0 0) 161)(hok:OwK lo hi U g (.slice ta ts.length tc) ms ts)(h1:W0.heap.size<=Mb)(h2:Ob≠Mb)(h3:¬(lo<=Mb/\Mb<hi))(BU:Below W0.heap.size W0 U)(hV:(U.setCell ⟨Mb,0,none⟩ (.int .i64 nx)).setCell ⟨Mb,1,none⟩ (.slice ap n c)=V):
 V.heap[Ob]? =some (.cells #[.int .i64 wd,vs,.int .i64 d,.slice ta ts.length tc,.int .i64 nx] 41)/\Two V Mb (.int .i64 nx) (.slice ap n c) 161/\OwK lo hi V g (.slice ta ts.length tc) ms ts/\V.heap.size=U.heap.size/\Below W0.heap.size W0 V:=by
 have far:∀b,b≠Mb->V.heap[b]? =U.heap[b]? :=fun b a=>by rw [<-hV];exact (Below.heap_setCell _ ⟨Mb,1,none⟩ _ b (fun e=>a e)).trans (Below.heap_setCell _ ⟨Mb,0,none⟩ _ b (fun e=>a e))
 have f:V.heap.size=U.heap.size:=by rw [<-hV,Ze,Ze]
 exact⟨(far Ob h2).trans hO,by rw [<-hV];exact (hM.set0 _).set1 _,hok.sm (by omega) (fun b x y=>far b (by omega)),f,by rw [<-hV];exact (BU.setCell (p:=⟨Mb,0,none⟩) h1 _).setCell (p:=⟨Mb,1,none⟩) h1 _⟩
theorem ZnZ(am aw:Option Addr)(cm cw:Nat)(wd:Int)(ms:List Mk)(d:Int)(ts:List Wb)(nx:Int)(ap:Option Addr)(cp:Nat)(p:List Int)(w:World)(hm:Zo w am ms)(hv:Zp true w aw ts)(hp:Zy w ap p)(hpl:p.length<=1048576)(hsm:Z0 ms ts)(hst:stB wd ms d ts nx=true):
 Calls Tryz.prog 87 #[.agg #[.int .i64 wd,.slice am ms.length cm,.int .i64 d,.slice aw ts.length cw,.int .i64 nx],.slice ap p.length cp] w fun e w'=>∃x,e=.returned (.tuple #[x,.int .i64 (kpRr (kpB wd nx d p ts) nx)])/\StO true (Btw w.heap.size w'.heap.size) w' x wd (kpMs (kpB wd nx d p ts) ms nx p) (kpDd (kpB wd nx d p ts) nx p ts d) (kpTs (kpB wd nx d p ts) nx p ts d) (kpNx (kpB wd nx d p ts) nx)/\Below w.heap.size w w':=by
 obtain⟨cJ,f,-,-⟩:=ZaY hst
 obtain⟨j0,dL,dw,dE,dG⟩:=info_parts Tryz.info161
 obtain⟨W1,be⟩:∃W,w.alloc (.cells #[.int .i64 wd,.slice am ms.length cm,.int .i64 d,.slice aw ts.length cw,.int .i64 nx] 41)=W:=⟨_,rfl⟩
 have cF:=balZ be
 have cK:ZbA true W1 w.heap.size am aw cm cw wd ms d ts nx:=by rw [<-be];exact ZbA.box hm hv
 obtain⟨W,hW⟩:∃W,W1.alloc (.cells #[.int .i64 0,.slice none 0 0,.int .i64 0,.slice none 0 0,.int .i64 0] 41)=W:=⟨_,rfl⟩
 have cg:=balZ hW
 have s1:=salZ be
 have s2:W.heap.size=w.heap.size+1+1:=by rw [<-hW];simp [s1]
 have TR:=nal2Z hW s1
 have hI:=cK.below cg
 have HB:=Za (Zb cF cg)
 have HI:=Za hI
 have dU:=Za TR
 have cN:=Za s2
 have HC:=Za (Zfs am aw cm cw wd ms d ts nx W hI.mv hI.wv hsm)
 rw [hst] at HC
 have a5:=Za cJ
 have du:=Za (Zic hst)
 have HP:=Za (And.intro hp hpl)
 have aS:=Za (And.intro f hsm)
 have dJ:=Za (ZfF hst)
 have k0:=hI.c0
 have k1:=hI.c1
 have k2:=hI.c2
 have k3:=hI.c3
 have k4:=hI.c4
 have d9:Hid _:=aw2Z be hW
 clear hp hpl hm hv cF cK cg TR hI s1 s2 hW be f cJ hsm hst
 go_enter Tryz.func87,Tryz.ntmps87
 go_upto_region 1 with fail
 rw [d9.out]
 clear d9
 go_wp2_with fail
 refine HC.out.mono ?_
 rintro e W0 ⟨rfl,L1⟩
 clear k0 k1 k2 k3 k4 HC
 have ar:=Za (HI.out.below L1)
 have cH:=Za L1
 have dQ:=L1.size
 have aP:Hid (∀N,Below W0.heap.size W0 N->Calls Tryz.prog 84 #[.agg #[.int .i64 wd,.slice am ms.length cm,.int .i64 d,.slice aw ts.length cw,.int .i64 nx]] N fun e w'=>∃g vt,e=.returned (.agg #[.int .i64 wd,.slice (some ⟨g,0,none⟩) ms.length ms.length,.int .i64 d,vt,.int .i64 nx])/\Zid N.heap.size w' g vt ms ts/\Below N.heap.size N w'):=fun N L'=>Zet true am aw cm cw wd ms d ts nx N (ar.out.below L').mv (ar.out.below L').wv a5.out aS.out.1 aS.out.2
 have d5:Hid (∀N,Below W0.heap.size W0 N->N.cell? ⟨w.heap.size,0,none⟩=some (.int .i64 wd)/\N.cell? ⟨w.heap.size,1,none⟩=some (.slice am ms.length cm)/\N.cell? ⟨w.heap.size,2,none⟩=some (.int .i64 d)/\N.cell? ⟨w.heap.size,3,none⟩=some (.slice aw ts.length cw)/\N.cell? ⟨w.heap.size,4,none⟩=some (.int .i64 nx)):=fun N L'=>⟨(ar.out.below L').c0,(ar.out.below L').c1,(ar.out.below L').c2,(ar.out.below L').c3,(ar.out.below L').c4⟩
 have co:=Za ((Below.refl W0.heap.size W0).drew)
 clear L1
 go_upto_region 3 with fail
 go_cut [6,7] from 14 to 19 (fun v b wx=>∃k y g O P H I,v=.pointer (some ⟨k,0,none⟩)/\b=.pointer (some ⟨y,0,none⟩)/\wx.heap[k]? =some (.cells #[.int .i64 wd,.slice (some ⟨g,0,none⟩) ms.length ms.length,.int .i64 d,.slice O ts.length P,.int .i64 nx] 41)/\Two wx y (.int .i64 nx) (.slice ap p.length cp) 161/\OwK H I wx g (.slice O ts.length P) ms ts/\(W0.heap.size<=H/\H<=I/\I<=wx.heap.size/\W0.heap.size<=k/\W0.heap.size<=y/\k≠y/\¬(H<=k/\k<I)/\¬(H<=y/\y<I))/\Below W0.heap.size W0 wx)
 case first=>
  refine Zl (S:=fun N=>Below W0.heap.size W0 N) (fuel:=5) [0,2,3,4,5] (by kernel_rfl) (by kernel_rfl) (by kernel_rfl) (by kernel_rfl) co.out (fun _=>?_)
  iterate 5 (refine⟨_,rfl,?_⟩;apply Exists.intro;refine⟨Or.inl ⟨by rfl,fun w' aR=>?_⟩,?_⟩;(focus (obtain⟨e1,e2,e3,e4,e5⟩:=d5.out w' aR;go_simp<;>with_reducible rfl));simp only [Act.put,tkgZ])
  obtain⟨u0,ax⟩:∃w0,W0.drew=w0:=⟨_,rfl⟩
  have ah:Below W0.heap.size W0 u0:=by rw [<-ax];exact co.out
  have el:W0.heap.size<=u0.heap.size:=by rw [<-ax];exact Nat.le_refl _
  rw [ax]
  clear ax
  refine Zb3 1 6 7 (by kernel_rfl) rfl rfl rfl (fun K j=>?_) (fun K j=>?_) (fun K j=>?_)
  · go_simp
    refine (aP.out u0 ah).mono ?_
    rintro e u1 ⟨g,tt,rfl,z,a7⟩
    obtain⟨O,P,rfl,G⟩:=Zdo z a5.out
    obtain⟨H,I,bu,bp,f⟩:∃H I,(u0.heap.size<=H/\H<=I)/\I<=u1.heap.size/\OwK H I u1 g (.slice O ts.length P) ms ts:=⟨_,_,⟨Nat.le_refl _,a7.size⟩,Nat.le_refl _,G⟩
    have cP:=a7.size
    have Q:=Zb ah a7
    refine j.out _ _ Q (fun _=>?_)
    clear j K a7 z G
    refine ZA 6 7 (by kernel_rfl) rfl rfl (fun K j=>?_) (fun K j=>?_)
    · go_simp
      obtain⟨u2,t⟩:∃w0,u1.alloc (.cells #[.int .i64 0,.slice none 0 0,.int .i64 0,.slice none 0 0,.int .i64 0] 41)=w0:=⟨_,rfl⟩
      have r:=balZ t
      obtain⟨k,E⟩:∃q,u1.heap.size=q:=⟨_,rfl⟩
      have u:=nal2Z t E
      have av:=altZ t
      have bx:u1.heap.size<=k/\k<u2.heap.size:=by omega
      first | rw [t] | skip
      first | rw [E] | skip
      have s:=Zb Q r
      replace f:=f.sm (w':=u2) (by omega) (fun b _ h2=>r.block b (by omega))
      refine j.out _ _ s (fun _=>?_)
      clear j K r t E
      refine Zc 7 (by kernel_rfl) rfl (fun K j=>?_)
      go_simp
      generalize D:World.alloc _ _=u3
      have l:=balZ D
      obtain⟨y,M⟩:∃q,u2.heap.size=q:=⟨_,rfl⟩
      have m:Two u3 y (.int .i64 0) (.slice none 0 0) 161:=by rw [<-D,<-M];exact Two.new u2 _ _ _
      have bb:=altZ D
      have bz:u2.heap.size<=y/\y<u3.heap.size:=by omega
      first | rw [D] | skip
      first | rw [M] | skip
      have Y:=Zb s l
      replace u:=(l.block k (by omega)).trans u
      replace f:=f.sm (w':=u3) (by omega) (fun b _ h2=>l.block b (by omega))
      refine j.out _ _ Y (fun _=>?_)
      clear j K l D M
      refine Zc 8 (by kernel_rfl) rfl (fun K j=>?_)
      obtain⟨r0,r1,r2,r3,r4,n,J⟩:=Zk u
      have a2:=n 0
      have a0:=n 1
      have Z:=n 2
      have a3:=n 3
      have a1:=n 4
      go_simp
      generalize hu4:World.setCell _ _ _=u4
      obtain⟨u,m,f,b5,U⟩:=ZkT u m f (by omega) (by omega) (by omega) Y hu4
      refine j.out _ _ U (fun _=>?_)
      clear j K hu4 n r0 r1 r2 r3 r4 a2 a0 Z a3 a1 J
      refine Zc 9 (by kernel_rfl) rfl (fun K j=>?_)
      have x0:=m.c0
      have x1:=m.c1
      have aa:=m.frozen 0
      have a9:=m.frozen 1
      go_simp
      generalize hu5:World.setCell _ _ _=u5
      obtain⟨u,m,f,b6,T⟩:=ZkU u m f (by omega) (by omega) (by omega) U hu5
      refine j.out _ _ T (fun _=>?_)
      clear j K hu5 x0 x1 aa a9
      refine wpAnyH_done (by kernel_rfl) ?_ _
      refine NoPanic.normal ?_
      try simp only [Exit.then]
      go_wp2_with fail
      go_meet
      exact⟨k,y,g,O,P,H,I,rfl,rfl,u,m,f,⟨by omega,by omega,by omega,by omega,by omega,by omega,by omega,by omega⟩,T⟩
    · go_simp
      obtain⟨u2,t⟩:∃w0,u1.alloc (.cells #[.int .i64 0,.slice none 0 0] 161)=w0:=⟨_,rfl⟩
      have r:=balZ t
      obtain⟨y,M⟩:∃q,u1.heap.size=q:=⟨_,rfl⟩
      have m:Two u2 y (.int .i64 0) (.slice none 0 0) 161:=by rw [<-t,<-M];exact Two.new u1 _ _ _
      have av:=altZ t
      have bz:u1.heap.size<=y/\y<u2.heap.size:=by omega
      first | rw [t] | skip
      first | rw [M] | skip
      have s:=Zb Q r
      replace f:=f.sm (w':=u2) (by omega) (fun b _ h2=>r.block b (by omega))
      refine j.out _ _ s (fun _=>?_)
      clear j K r t M
      refine Zc 6 (by kernel_rfl) rfl (fun K j=>?_)
      go_simp
      generalize D:World.alloc _ _=u3
      have l:=balZ D
      obtain⟨k,E⟩:∃q,u2.heap.size=q:=⟨_,rfl⟩
      have u:=nal2Z D E
      have bb:=altZ D
      have bx:u2.heap.size<=k/\k<u3.heap.size:=by omega
      first | rw [D] | skip
      first | rw [E] | skip
      have Y:=Zb s l
      replace m:=m.below l
      replace f:=f.sm (w':=u3) (by omega) (fun b _ h2=>l.block b (by omega))
      refine j.out _ _ Y (fun _=>?_)
      clear j K l D E
      refine Zc 8 (by kernel_rfl) rfl (fun K j=>?_)
      obtain⟨r0,r1,r2,r3,r4,n,J⟩:=Zk u
      have a2:=n 0
      have a0:=n 1
      have Z:=n 2
      have a3:=n 3
      have a1:=n 4
      go_simp
      generalize hu4:World.setCell _ _ _=u4
      obtain⟨u,m,f,b5,U⟩:=ZkT u m f (by omega) (by omega) (by omega) Y hu4
      refine j.out _ _ U (fun _=>?_)
      clear j K hu4 n r0 r1 r2 r3 r4 a2 a0 Z a3 a1 J
      refine Zc 9 (by kernel_rfl) rfl (fun K j=>?_)
      have x0:=m.c0
      have x1:=m.c1
      have aa:=m.frozen 0
      have a9:=m.frozen 1
      go_simp
      generalize hu5:World.setCell _ _ _=u5
      obtain⟨u,m,f,b6,T⟩:=ZkU u m f (by omega) (by omega) (by omega) U hu5
      refine j.out _ _ T (fun _=>?_)
      clear j K hu5 x0 x1 aa a9
      refine wpAnyH_done (by kernel_rfl) ?_ _
      refine NoPanic.normal ?_
      try simp only [Exit.then]
      go_wp2_with fail
      go_meet
      exact⟨k,y,g,O,P,H,I,rfl,rfl,u,m,f,⟨by omega,by omega,by omega,by omega,by omega,by omega,by omega,by omega⟩,T⟩
  · go_simp
    obtain⟨u1,ab⟩:∃w0,u0.alloc (.cells #[.int .i64 0,.slice none 0 0,.int .i64 0,.slice none 0 0,.int .i64 0] 41)=w0:=⟨_,rfl⟩
    have a7:=balZ ab
    obtain⟨k,E⟩:∃q,u0.heap.size=q:=⟨_,rfl⟩
    have u:=nal2Z ab E
    have cP:=altZ ab
    have bx:u0.heap.size<=k/\k<u1.heap.size:=by omega
    first | rw [ab] | skip
    first | rw [E] | skip
    have Q:=Zb ah a7
    refine j.out _ _ Q (fun _=>?_)
    clear j K a7 ab E
    refine ZA 1 7 (by kernel_rfl) rfl rfl (fun K j=>?_) (fun K j=>?_)
    · go_simp
      refine (aP.out u1 Q).mono ?_
      rintro e u2 ⟨g,tt,rfl,z,r⟩
      obtain⟨O,P,rfl,G⟩:=Zdo z a5.out
      obtain⟨H,I,bu,bp,f⟩:∃H I,(u1.heap.size<=H/\H<=I)/\I<=u2.heap.size/\OwK H I u2 g (.slice O ts.length P) ms ts:=⟨_,_,⟨Nat.le_refl _,r.size⟩,Nat.le_refl _,G⟩
      have av:=r.size
      have s:=Zb Q r
      replace u:=(r.block k (by omega)).trans u
      refine j.out _ _ s (fun _=>?_)
      clear j K r z G
      refine Zc 7 (by kernel_rfl) rfl (fun K j=>?_)
      go_simp
      generalize D:World.alloc _ _=u3
      have l:=balZ D
      obtain⟨y,M⟩:∃q,u2.heap.size=q:=⟨_,rfl⟩
      have m:Two u3 y (.int .i64 0) (.slice none 0 0) 161:=by rw [<-D,<-M];exact Two.new u2 _ _ _
      have bb:=altZ D
      have bz:u2.heap.size<=y/\y<u3.heap.size:=by omega
      first | rw [D] | skip
      first | rw [M] | skip
      have Y:=Zb s l
      replace u:=(l.block k (by omega)).trans u
      replace f:=f.sm (w':=u3) (by omega) (fun b _ h2=>l.block b (by omega))
      refine j.out _ _ Y (fun _=>?_)
      clear j K l D M
      refine Zc 8 (by kernel_rfl) rfl (fun K j=>?_)
      obtain⟨r0,r1,r2,r3,r4,n,J⟩:=Zk u
      have a2:=n 0
      have a0:=n 1
      have Z:=n 2
      have a3:=n 3
      have a1:=n 4
      go_simp
      generalize hu4:World.setCell _ _ _=u4
      obtain⟨u,m,f,b5,U⟩:=ZkT u m f (by omega) (by omega) (by omega) Y hu4
      refine j.out _ _ U (fun _=>?_)
      clear j K hu4 n r0 r1 r2 r3 r4 a2 a0 Z a3 a1 J
      refine Zc 9 (by kernel_rfl) rfl (fun K j=>?_)
      have x0:=m.c0
      have x1:=m.c1
      have aa:=m.frozen 0
      have a9:=m.frozen 1
      go_simp
      generalize hu5:World.setCell _ _ _=u5
      obtain⟨u,m,f,b6,T⟩:=ZkU u m f (by omega) (by omega) (by omega) U hu5
      refine j.out _ _ T (fun _=>?_)
      clear j K hu5 x0 x1 aa a9
      refine wpAnyH_done (by kernel_rfl) ?_ _
      refine NoPanic.normal ?_
      try simp only [Exit.then]
      go_wp2_with fail
      go_meet
      exact⟨k,y,g,O,P,H,I,rfl,rfl,u,m,f,⟨by omega,by omega,by omega,by omega,by omega,by omega,by omega,by omega⟩,T⟩
    · go_simp
      obtain⟨u2,t⟩:∃w0,u1.alloc (.cells #[.int .i64 0,.slice none 0 0] 161)=w0:=⟨_,rfl⟩
      have r:=balZ t
      obtain⟨y,M⟩:∃q,u1.heap.size=q:=⟨_,rfl⟩
      have m:Two u2 y (.int .i64 0) (.slice none 0 0) 161:=by rw [<-t,<-M];exact Two.new u1 _ _ _
      have av:=altZ t
      have bz:u1.heap.size<=y/\y<u2.heap.size:=by omega
      first | rw [t] | skip
      first | rw [M] | skip
      have s:=Zb Q r
      replace u:=(r.block k (by omega)).trans u
      refine j.out _ _ s (fun _=>?_)
      clear j K r t M
      refine Zc 1 (by kernel_rfl) rfl (fun K j=>?_)
      go_simp
      refine (aP.out u2 s).mono ?_
      rintro e u3 ⟨g,tt,rfl,z,l⟩
      obtain⟨O,P,rfl,G⟩:=Zdo z a5.out
      obtain⟨H,I,bu,bp,f⟩:∃H I,(u2.heap.size<=H/\H<=I)/\I<=u3.heap.size/\OwK H I u3 g (.slice O ts.length P) ms ts:=⟨_,_,⟨Nat.le_refl _,l.size⟩,Nat.le_refl _,G⟩
      have bb:=l.size
      have Y:=Zb s l
      replace u:=(l.block k (by omega)).trans u
      replace m:=m.below l
      refine j.out _ _ Y (fun _=>?_)
      clear j K l z G
      refine Zc 8 (by kernel_rfl) rfl (fun K j=>?_)
      obtain⟨r0,r1,r2,r3,r4,n,J⟩:=Zk u
      have a2:=n 0
      have a0:=n 1
      have Z:=n 2
      have a3:=n 3
      have a1:=n 4
      go_simp
      generalize hu4:World.setCell _ _ _=u4
      obtain⟨u,m,f,b5,U⟩:=ZkT u m f (by omega) (by omega) (by omega) Y hu4
      refine j.out _ _ U (fun _=>?_)
      clear j K hu4 n r0 r1 r2 r3 r4 a2 a0 Z a3 a1 J
      refine Zc 9 (by kernel_rfl) rfl (fun K j=>?_)
      have x0:=m.c0
      have x1:=m.c1
      have aa:=m.frozen 0
      have a9:=m.frozen 1
      go_simp
      generalize hu5:World.setCell _ _ _=u5
      obtain⟨u,m,f,b6,T⟩:=ZkU u m f (by omega) (by omega) (by omega) U hu5
      refine j.out _ _ T (fun _=>?_)
      clear j K hu5 x0 x1 aa a9
      refine wpAnyH_done (by kernel_rfl) ?_ _
      refine NoPanic.normal ?_
      try simp only [Exit.then]
      go_wp2_with fail
      go_meet
      exact⟨k,y,g,O,P,H,I,rfl,rfl,u,m,f,⟨by omega,by omega,by omega,by omega,by omega,by omega,by omega,by omega⟩,T⟩
  · go_simp
    obtain⟨u1,ab⟩:∃w0,u0.alloc (.cells #[.int .i64 0,.slice none 0 0] 161)=w0:=⟨_,rfl⟩
    have a7:=balZ ab
    obtain⟨y,M⟩:∃q,u0.heap.size=q:=⟨_,rfl⟩
    have m:Two u1 y (.int .i64 0) (.slice none 0 0) 161:=by rw [<-ab,<-M];exact Two.new u0 _ _ _
    have cP:=altZ ab
    have bz:u0.heap.size<=y/\y<u1.heap.size:=by omega
    first | rw [ab] | skip
    first | rw [M] | skip
    have Q:=Zb ah a7
    refine j.out _ _ Q (fun _=>?_)
    clear j K a7 ab M
    refine ZA 1 6 (by kernel_rfl) rfl rfl (fun K j=>?_) (fun K j=>?_)
    · go_simp
      refine (aP.out u1 Q).mono ?_
      rintro e u2 ⟨g,tt,rfl,z,r⟩
      obtain⟨O,P,rfl,G⟩:=Zdo z a5.out
      obtain⟨H,I,bu,bp,f⟩:∃H I,(u1.heap.size<=H/\H<=I)/\I<=u2.heap.size/\OwK H I u2 g (.slice O ts.length P) ms ts:=⟨_,_,⟨Nat.le_refl _,r.size⟩,Nat.le_refl _,G⟩
      have av:=r.size
      have s:=Zb Q r
      replace m:=m.below r
      refine j.out _ _ s (fun _=>?_)
      clear j K r z G
      refine Zc 6 (by kernel_rfl) rfl (fun K j=>?_)
      go_simp
      generalize D:World.alloc _ _=u3
      have l:=balZ D
      obtain⟨k,E⟩:∃q,u2.heap.size=q:=⟨_,rfl⟩
      have u:=nal2Z D E
      have bb:=altZ D
      have bx:u2.heap.size<=k/\k<u3.heap.size:=by omega
      first | rw [D] | skip
      first | rw [E] | skip
      have Y:=Zb s l
      replace m:=m.below l
      replace f:=f.sm (w':=u3) (by omega) (fun b _ h2=>l.block b (by omega))
      refine j.out _ _ Y (fun _=>?_)
      clear j K l D E
      refine Zc 8 (by kernel_rfl) rfl (fun K j=>?_)
      obtain⟨r0,r1,r2,r3,r4,n,J⟩:=Zk u
      have a2:=n 0
      have a0:=n 1
      have Z:=n 2
      have a3:=n 3
      have a1:=n 4
      go_simp
      generalize hu4:World.setCell _ _ _=u4
      obtain⟨u,m,f,b5,U⟩:=ZkT u m f (by omega) (by omega) (by omega) Y hu4
      refine j.out _ _ U (fun _=>?_)
      clear j K hu4 n r0 r1 r2 r3 r4 a2 a0 Z a3 a1 J
      refine Zc 9 (by kernel_rfl) rfl (fun K j=>?_)
      have x0:=m.c0
      have x1:=m.c1
      have aa:=m.frozen 0
      have a9:=m.frozen 1
      go_simp
      generalize hu5:World.setCell _ _ _=u5
      obtain⟨u,m,f,b6,T⟩:=ZkU u m f (by omega) (by omega) (by omega) U hu5
      refine j.out _ _ T (fun _=>?_)
      clear j K hu5 x0 x1 aa a9
      refine wpAnyH_done (by kernel_rfl) ?_ _
      refine NoPanic.normal ?_
      try simp only [Exit.then]
      go_wp2_with fail
      go_meet
      exact⟨k,y,g,O,P,H,I,rfl,rfl,u,m,f,⟨by omega,by omega,by omega,by omega,by omega,by omega,by omega,by omega⟩,T⟩
    · go_simp
      obtain⟨u2,t⟩:∃w0,u1.alloc (.cells #[.int .i64 0,.slice none 0 0,.int .i64 0,.slice none 0 0,.int .i64 0] 41)=w0:=⟨_,rfl⟩
      have r:=balZ t
      obtain⟨k,E⟩:∃q,u1.heap.size=q:=⟨_,rfl⟩
      have u:=nal2Z t E
      have av:=altZ t
      have bx:u1.heap.size<=k/\k<u2.heap.size:=by omega
      first | rw [t] | skip
      first | rw [E] | skip
      have s:=Zb Q r
      replace m:=m.below r
      refine j.out _ _ s (fun _=>?_)
      clear j K r t E
      refine Zc 1 (by kernel_rfl) rfl (fun K j=>?_)
      go_simp
      refine (aP.out u2 s).mono ?_
      rintro e u3 ⟨g,tt,rfl,z,l⟩
      obtain⟨O,P,rfl,G⟩:=Zdo z a5.out
      obtain⟨H,I,bu,bp,f⟩:∃H I,(u2.heap.size<=H/\H<=I)/\I<=u3.heap.size/\OwK H I u3 g (.slice O ts.length P) ms ts:=⟨_,_,⟨Nat.le_refl _,l.size⟩,Nat.le_refl _,G⟩
      have bb:=l.size
      have Y:=Zb s l
      replace u:=(l.block k (by omega)).trans u
      replace m:=m.below l
      refine j.out _ _ Y (fun _=>?_)
      clear j K l z G
      refine Zc 8 (by kernel_rfl) rfl (fun K j=>?_)
      obtain⟨r0,r1,r2,r3,r4,n,J⟩:=Zk u
      have a2:=n 0
      have a0:=n 1
      have Z:=n 2
      have a3:=n 3
      have a1:=n 4
      go_simp
      generalize hu4:World.setCell _ _ _=u4
      obtain⟨u,m,f,b5,U⟩:=ZkT u m f (by omega) (by omega) (by omega) Y hu4
      refine j.out _ _ U (fun _=>?_)
      clear j K hu4 n r0 r1 r2 r3 r4 a2 a0 Z a3 a1 J
      refine Zc 9 (by kernel_rfl) rfl (fun K j=>?_)
      have x0:=m.c0
      have x1:=m.c1
      have aa:=m.frozen 0
      have a9:=m.frozen 1
      go_simp
      generalize hu5:World.setCell _ _ _=u5
      obtain⟨u,m,f,b6,T⟩:=ZkU u m f (by omega) (by omega) (by omega) U hu5
      refine j.out _ _ T (fun _=>?_)
      clear j K hu5 x0 x1 aa a9
      refine wpAnyH_done (by kernel_rfl) ?_ _
      refine NoPanic.normal ?_
      try simp only [Exit.then]
      go_wp2_with fail
      go_meet
      exact⟨k,y,g,O,P,H,I,rfl,rfl,u,m,f,⟨by omega,by omega,by omega,by omega,by omega,by omega,by omega,by omega⟩,T⟩
 case rest=>
  obtain⟨k,y,g,O,P,H,I,rfl,rfl,u,m,f,bQ,L3⟩:=hcut
  generalize aJ:wc=wo at *
  clear aJ wc
  have au:=ar.out.below L3
  have k0:=au.c0
  have k1:=au.c1
  have k2:=au.c2
  have k3:=au.c3
  have k4:=au.c4
  have m0:=m.c0
  have m1:=m.c1
  have aT:=Za (Zb (Zb HB.out cH.out) L3)
  have aK:Hid (wo.heap[w.heap.size+1]? =some (.cells #[.int .i64 0,.slice none 0 0,.int .i64 0,.slice none 0 0,.int .i64 0] 41)):=((Zb cH.out L3).block _ (by have:=cN.out;omega)).trans dU.out
  have HZ:Hid (w.heap.size+1+1<=W0.heap.size/\W0.heap.size<=wo.heap.size/\k<wo.heap.size/\y<wo.heap.size):=⟨by have:=cN.out;omega,L3.size,(Zk u).2.2.2.2.2.2,m.lt⟩
  obtain⟨LD,bZ⟩:∃L,ZfC (nx,p) ts d=L:=⟨_,rfl⟩
  obtain⟨LT,cf⟩:∃L,Zb2 (nx,p) ts d=L:=⟨_,rfl⟩
  obtain⟨rr,cq⟩:∃b,ZcX (nx,p) ts d=b:=⟨_,rfl⟩
  have HR:Hid (Calls Tryz.prog 132 #[.agg #[.int .i64 d,.slice aw ts.length cw],.agg #[.int .i64 nx,.slice ap p.length cp]] wo fun e w'=>∃va vc,e=.returned (.tuple #[.agg #[.int .i64 LD,.slice va LT.length vc],.bool rr])/\TsO true (Btw wo.heap.size w'.heap.size) w' (.slice va LT.length vc) LT/\Below wo.heap.size wo w'):=by
   show Calls _ _ _ _ _
   refine (ZmA aw ap cw cp d ts (nx,p) wo au.wv (HP.out.1.next aT.out) HP.out.2 aS.out.1 aS.out.2.2.1).mono ?_
   rintro e w' ⟨vt,rfl,⟨S,vm,vl,ht⟩,L2⟩
   obtain⟨a',c',rfl,-⟩:=ht.form
   rw [bZ,cq]
   rw [cf] at ht ⊢
   exact⟨a',c',rfl,ht.out,L2⟩
  have aY:=Za (And.intro bZ (And.intro cf cq))
  have ca:=Za au
  have bt:=Za u
  have dK:=Za m
  have aL:=Za f
  have af:=Za bQ
  clear m f L3 u bZ cf cq au bQ aP d5 co dQ
  go_wp2_with fail
  refine HR.out.mono ?_
  rintro e w4 ⟨va,vc,rfl,cA,L4⟩
  obtain⟨w5,b4⟩:∃w5,w4.alloc (.cells #[.int .i64 LD,.slice va LT.length vc] 39)=w5:=⟨_,rfl⟩
  have L5:=balZ b4
  have bC:Hid (w5.heap.size=w4.heap.size+1/\wo.heap.size<=w4.heap.size):=⟨by rw [<-b4];simp,L4.size⟩
  have dH:Hid (Two w5 w4.heap.size (.int .i64 LD) (.slice va LT.length vc) 39):=by show Two _ _ _ _ _;rw [<-b4];exact Two.new w4 _ _ _
  have dW:=Za (cA.next L5)
  have ai:=Za (Zb L4 L5)
  have dn:=Za b4
  clear cA L4 L5 b4 HR
  go_upto_region 5 with fail
  rw [dn.out]
  clear k0 k1 k2 k3 k4 m0 m1
  have aW:=ca.out.below ai.out
  have k0:=aW.c0
  have k1:=aW.c1
  have k2:=aW.c2
  have k3:=aW.c3
  have k4:=aW.c4
  clear aW
  rcases rr with _ | _
  · have b7:Hid (kpB wd nx d p ts=false):=by show _=_;unfold kpB;rw [aY.out.2.2];simp
    have hz:=HZ.out
    have aI:=af.out
    have hl:=ai.out.size
    have tO:w5.heap[k]? =some (.cells #[.int .i64 wd,.slice (some ⟨g,0,none⟩) ms.length ms.length,.int .i64 d,.slice O ts.length P,.int .i64 nx] 41):=(ai.out.block k (by omega)).trans bt.out
    obtain⟨f0,f1,f2,f3,f4,-,-⟩:=Zk tO
    have tr:w5.heap[w.heap.size+1]? =some (.cells #[.int .i64 0,.slice none 0 0,.int .i64 0,.slice none 0 0,.int .i64 0] 41):=(ai.out.block _ (by omega)).trans aK.out
    obtain⟨r0,r1,r2,r3,r4,n,J⟩:=Zk tr
    have a2:=n 0
    have a0:=n 1
    have Z:=n 2
    have a3:=n 3
    have a1:=n 4
    have t6:_=some (Obj.cells #[.int .i64 wd,.slice (some ⟨g,0,none⟩) ms.length ms.length,.int .i64 d,.slice O ts.length P,.int .i64 nx] 41):=ZaG tr
    obtain⟨q0,q1,q2,q3,q4,-,-⟩:=Zk t6
    obtain⟨C,B⟩:∃C,((((w5.setCell ⟨w.heap.size+1,0,none⟩ (.int .i64 wd)).setCell ⟨w.heap.size+1,1,none⟩ (.slice (some ⟨g,0,none⟩) ms.length ms.length)).setCell ⟨w.heap.size+1,2,none⟩ (.int .i64 d)).setCell ⟨w.heap.size+1,3,none⟩ (.slice O ts.length P)).setCell ⟨w.heap.size+1,4,none⟩ (.int .i64 nx)=C:=⟨_,rfl⟩
    have far:∀b,b≠w.heap.size+1->C.heap[b]? =w5.heap[b]? :=fun b o=>by rw [<-B];exact ZaB o
    have an:C.heap.size=w5.heap.size:=by rw [<-B];simp [World.setCell]
    have ho:w.heap.size<=w.heap.size+1:=by omega
    have BZ:Below w.heap.size w C:=by
     rw [<-B]
     have o:=Zb aT.out ai.out
     exact (((((o.setCell (p:=⟨w.heap.size+1,0,none⟩) ho _).setCell (p:=⟨w.heap.size+1,1,none⟩) ho _).setCell (p:=⟨w.heap.size+1,2,none⟩) ho _).setCell (p:=⟨w.heap.size+1,3,none⟩) ho _).setCell (p:=⟨w.heap.size+1,4,none⟩) ho _)
    have hst:StO true (Btw w.heap.size C.heap.size) C (.agg #[.int .i64 wd,.slice (some ⟨g,0,none⟩) ms.length ms.length,.int .i64 d,.slice O ts.length P,.int .i64 nx]) wd ms d ts nx:=by
     obtain⟨ds,F,h1,h2,h3,h4,h5⟩:=aL.out.sm (w':=C) (by omega) (fun b cW ch=>(far b (by omega)).trans (ai.out.block b (by omega)))
     exact Zhd wd d nx h2 h1 rfl (ZF a5.out) (ZaS a5.out) h3 (fun b o=>⟨by have:=(h4 b o).1;omega,(h4 b o).2.2⟩) (fun b o=>by have:=(h5 b o).1;omega)
    have a8:=Za (And.intro hst BZ)
    have ba:=Za B
    clear hst BZ far an B tr t6 n tO hz aI hl ho J
    go_wp2_with fail
    refine bodyPost_ret (v:=.tuple #[.agg #[.int .i64 wd,.slice (some ⟨g,0,none⟩) ms.length ms.length,.int .i64 d,.slice O ts.length P,.int .i64 nx],.int .i64 (-1)]) (by simp [results,Tryz.results87,go_sem,q0,q1,q2,q3,q4]) rfl ?_
    rw [ba.out,b7.out]
    exact⟨_,rfl,a8.out.1,a8.out.2⟩
  have bW:=Za (ZmC aS.out.1 aY.out.2.2)
  have HA:=Za (Zkg ms.length ts.length am aw ap cm cw cp p.length wd d nx w5)
  by_cases aX:¬(p.length:Int)=wd
  · have b7:Hid (kpB wd nx d p ts=false):=by show _=_;unfold kpB;rw [decide_eq_false aX];simp
    rw [decide_eq_false aX] at HA
    go_wp2_with fail
    refine HA.out.mono ?_
    rintro e R ⟨rfl,L6⟩
    have A:=Za (Zb ai.out L6)
    clear L6 k0 k1 k2 k3 k4
    have hz:=HZ.out
    have aI:=af.out
    have hl:=A.out.size
    have tO:R.heap[k]? =some (.cells #[.int .i64 wd,.slice (some ⟨g,0,none⟩) ms.length ms.length,.int .i64 d,.slice O ts.length P,.int .i64 nx] 41):=(A.out.block k (by omega)).trans bt.out
    obtain⟨f0,f1,f2,f3,f4,-,-⟩:=Zk tO
    have tr:R.heap[w.heap.size+1]? =some (.cells #[.int .i64 0,.slice none 0 0,.int .i64 0,.slice none 0 0,.int .i64 0] 41):=(A.out.block _ (by omega)).trans aK.out
    obtain⟨r0,r1,r2,r3,r4,n,J⟩:=Zk tr
    have a2:=n 0
    have a0:=n 1
    have Z:=n 2
    have a3:=n 3
    have a1:=n 4
    have t6:_=some (Obj.cells #[.int .i64 wd,.slice (some ⟨g,0,none⟩) ms.length ms.length,.int .i64 d,.slice O ts.length P,.int .i64 nx] 41):=ZaG tr
    obtain⟨q0,q1,q2,q3,q4,-,-⟩:=Zk t6
    obtain⟨C,B⟩:∃C,((((R.setCell ⟨w.heap.size+1,0,none⟩ (.int .i64 wd)).setCell ⟨w.heap.size+1,1,none⟩ (.slice (some ⟨g,0,none⟩) ms.length ms.length)).setCell ⟨w.heap.size+1,2,none⟩ (.int .i64 d)).setCell ⟨w.heap.size+1,3,none⟩ (.slice O ts.length P)).setCell ⟨w.heap.size+1,4,none⟩ (.int .i64 nx)=C:=⟨_,rfl⟩
    have far:∀b,b≠w.heap.size+1->C.heap[b]? =R.heap[b]? :=fun b o=>by rw [<-B];exact ZaB o
    have an:C.heap.size=R.heap.size:=by rw [<-B];simp [World.setCell]
    have ho:w.heap.size<=w.heap.size+1:=by omega
    have BZ:Below w.heap.size w C:=by
     rw [<-B]
     have o:=Zb aT.out A.out
     exact (((((o.setCell (p:=⟨w.heap.size+1,0,none⟩) ho _).setCell (p:=⟨w.heap.size+1,1,none⟩) ho _).setCell (p:=⟨w.heap.size+1,2,none⟩) ho _).setCell (p:=⟨w.heap.size+1,3,none⟩) ho _).setCell (p:=⟨w.heap.size+1,4,none⟩) ho _)
    have hst:StO true (Btw w.heap.size C.heap.size) C (.agg #[.int .i64 wd,.slice (some ⟨g,0,none⟩) ms.length ms.length,.int .i64 d,.slice O ts.length P,.int .i64 nx]) wd ms d ts nx:=by
     obtain⟨ds,F,h1,h2,h3,h4,h5⟩:=aL.out.sm (w':=C) (by omega) (fun b cW ch=>(far b (by omega)).trans (A.out.block b (by omega)))
     exact Zhd wd d nx h2 h1 rfl (ZF a5.out) (ZaS a5.out) h3 (fun b o=>⟨by have:=(h4 b o).1;omega,(h4 b o).2.2⟩) (fun b o=>by have:=(h5 b o).1;omega)
    have a8:=Za (And.intro hst BZ)
    have ba:=Za B
    clear hst BZ far an B tr t6 n tO hz aI hl ho J
    go_wp2_with fail
    refine bodyPost_ret (v:=.tuple #[.agg #[.int .i64 wd,.slice (some ⟨g,0,none⟩) ms.length ms.length,.int .i64 d,.slice O ts.length P,.int .i64 nx],.int .i64 (-1)]) (by simp [results,Tryz.results87,go_sem,q0,q1,q2,q3,q4]) rfl ?_
    rw [ba.out,b7.out]
    exact⟨_,rfl,a8.out.1,a8.out.2⟩
  replace aX:(p.length:Int)=wd:=Classical.not_not.1 aX
  rw [decide_eq_true aX] at HA
  by_cases hnx:nx=1000000
  · have b7:Hid (kpB wd nx d p ts=false):=by show _=_;unfold kpB;rw [decide_eq_true hnx];simp
    have dd:(nx ==1000000)=true:=by simp;exact hnx
    clear hnx
    go_wp2_with fail
    refine HA.out.mono ?_
    rintro e R ⟨rfl,L6⟩
    have A:=Za (Zb ai.out L6)
    have a6:=ca.out.below A.out
    replace k0:=a6.c0
    replace k1:=a6.c1
    replace k2:=a6.c2
    replace k3:=a6.c3
    replace k4:=a6.c4
    clear L6 a6
    have hz:=HZ.out
    have aI:=af.out
    have hl:=A.out.size
    have tO:R.heap[k]? =some (.cells #[.int .i64 wd,.slice (some ⟨g,0,none⟩) ms.length ms.length,.int .i64 d,.slice O ts.length P,.int .i64 nx] 41):=(A.out.block k (by omega)).trans bt.out
    obtain⟨f0,f1,f2,f3,f4,-,-⟩:=Zk tO
    have tr:R.heap[w.heap.size+1]? =some (.cells #[.int .i64 0,.slice none 0 0,.int .i64 0,.slice none 0 0,.int .i64 0] 41):=(A.out.block _ (by omega)).trans aK.out
    obtain⟨r0,r1,r2,r3,r4,n,J⟩:=Zk tr
    have a2:=n 0
    have a0:=n 1
    have Z:=n 2
    have a3:=n 3
    have a1:=n 4
    have t6:_=some (Obj.cells #[.int .i64 wd,.slice (some ⟨g,0,none⟩) ms.length ms.length,.int .i64 d,.slice O ts.length P,.int .i64 nx] 41):=ZaG tr
    obtain⟨q0,q1,q2,q3,q4,-,-⟩:=Zk t6
    obtain⟨C,B⟩:∃C,((((R.setCell ⟨w.heap.size+1,0,none⟩ (.int .i64 wd)).setCell ⟨w.heap.size+1,1,none⟩ (.slice (some ⟨g,0,none⟩) ms.length ms.length)).setCell ⟨w.heap.size+1,2,none⟩ (.int .i64 d)).setCell ⟨w.heap.size+1,3,none⟩ (.slice O ts.length P)).setCell ⟨w.heap.size+1,4,none⟩ (.int .i64 nx)=C:=⟨_,rfl⟩
    have far:∀b,b≠w.heap.size+1->C.heap[b]? =R.heap[b]? :=fun b o=>by rw [<-B];exact ZaB o
    have an:C.heap.size=R.heap.size:=by rw [<-B];simp [World.setCell]
    have ho:w.heap.size<=w.heap.size+1:=by omega
    have BZ:Below w.heap.size w C:=by
     rw [<-B]
     have o:=Zb aT.out A.out
     exact (((((o.setCell (p:=⟨w.heap.size+1,0,none⟩) ho _).setCell (p:=⟨w.heap.size+1,1,none⟩) ho _).setCell (p:=⟨w.heap.size+1,2,none⟩) ho _).setCell (p:=⟨w.heap.size+1,3,none⟩) ho _).setCell (p:=⟨w.heap.size+1,4,none⟩) ho _)
    have hst:StO true (Btw w.heap.size C.heap.size) C (.agg #[.int .i64 wd,.slice (some ⟨g,0,none⟩) ms.length ms.length,.int .i64 d,.slice O ts.length P,.int .i64 nx]) wd ms d ts nx:=by
     obtain⟨ds,F,h1,h2,h3,h4,h5⟩:=aL.out.sm (w':=C) (by omega) (fun b cW ch=>(far b (by omega)).trans (A.out.block b (by omega)))
     exact Zhd wd d nx h2 h1 rfl (ZF a5.out) (ZaS a5.out) h3 (fun b o=>⟨by have:=(h4 b o).1;omega,(h4 b o).2.2⟩) (fun b o=>by have:=(h5 b o).1;omega)
    have a8:=Za (And.intro hst BZ)
    have ba:=Za B
    clear hst BZ far an B tr t6 n tO hz aI hl ho J
    go_wp2_with fail
    refine bodyPost_ret (v:=.tuple #[.agg #[.int .i64 wd,.slice (some ⟨g,0,none⟩) ms.length ms.length,.int .i64 d,.slice O ts.length P,.int .i64 nx],.int .i64 (-1)]) (by simp [results,Tryz.results87,go_sem,q0,q1,q2,q3,q4]) rfl ?_
    rw [ba.out,b7.out]
    exact⟨_,rfl,a8.out.1,a8.out.2⟩
  have ev:(nx ==1000000)=false:=by simp;exact hnx
  have cu:Hid (kpB wd nx d p ts=true):=by show _=_;unfold kpB;rw [aY.out.2.2,bW.out,decide_eq_true aX,decide_eq_false hnx];rfl
  clear hnx
  go_wp2_with fail
  refine HA.out.mono ?_
  rintro e R ⟨rfl,L6⟩
  have A:=Za (Zb ai.out L6)
  have ae:=Za L6
  have a6:=ca.out.below A.out
  replace k0:=a6.c0
  replace k1:=a6.c1
  replace k2:=a6.c2
  replace k3:=a6.c3
  replace k4:=a6.c4
  clear L6 a6
  go_upto_region 7 with fail
  clear k0 k1 k2 k3 k4
  have hz:=HZ.out
  have aI:=af.out
  have dB:=bC.out
  have dS:=ae.out.size
  have d6:R.heap[k]? =some (.cells #[.int .i64 wd,.slice (some ⟨g,0,none⟩) ms.length ms.length,.int .i64 d,.slice O ts.length P,.int .i64 nx] 41):=(A.out.block k (by omega)).trans bt.out
  have cv:=dK.out.below A.out
  have cy:=Za d6
  have dc:=Za cv
  obtain⟨ds,F,bY,d8,dy,cd,dz⟩:=aL.out.sm (w':=R) (by omega) (fun b _ ch=>A.out.block b (by omega))
  have cT:ds.length=ms.length:=by rw [<-bY,ZI]
  have e0:=Za (ZeN d8 (show w.heap.size<=H by omega))
  have az:Hid (Zs ds=ms/\ds.length=ms.length/\∀b,FtM g ds b->H<=b/\b<I):=⟨bY,cT,fun b o=>⟨(cd b o).1,(cd b o).2.1⟩⟩
  have cC:=Za (ZaP bW.out)
  have BS:Hid (Below R.heap.size R R.drew):=(Below.refl _ _).drew
  have dO:Hid (∀X:World,(∀b,b<R.heap.size->b≠g->X.heap[b]? =R.heap[b]?)->X.cell? ⟨k,1,none⟩=some (.slice (some ⟨g,0,none⟩) ms.length ms.length)/\X.cell? ⟨y,0,none⟩=some (.int .i64 nx)/\X.cell? ⟨y,1,none⟩=some (.slice ap p.length cp)):=fun X hX=>by
   have hz:=HZ.out
   have hn:=af.out
   have hf:=az.out.2.2 g (Or.inl rfl)
   have h6:=A.out.size
   obtain⟨_,f1,_,_,_,_,_⟩:=Zk ((hX k (by omega) (by omega)).trans cy.out)
   have hm:Two X y (.int .i64 nx) (.slice ap p.length cp) 161:=(hX y (by omega) (by omega)).trans dc.out
   exact⟨f1,hm.c0,hm.c1⟩
  have dV:Hid (∀N,Below R.heap.size R N->Calls Tryz.prog 127 #[.agg #[.int .i64 nx,.slice ap p.length cp]] N fun e w'=>∃h c,e=.returned (.agg #[.int .i64 nx,.slice (some ⟨h,0,none⟩) p.length c])/\ZQ N.heap.size w' h c p/\Below N.heap.size N w'):=fun N L'=>ZmE (nx,ap,cp,p) N (HP.out.1.next (Zb (Zb aT.out A.out) L')) (by have:=cC.out;show 0<p.length;omega) HP.out.2
  clear d6 cv bY d8 dy cd dz cT hz aI dB dS
  refine Zay (S:=fun X=>∀b,b<R.heap.size->b≠g->X.heap[b]? =R.heap[b]?) (fuel:=4) [0,1,2] _ rfl (by kernel_rfl) (by kernel_rfl) (by kernel_rfl) (by kernel_rfl) (by kernel_rfl) (by kernel_rfl) (by kernel_rfl) (fun b o _=>BS.out.block b o) (fun hS=>?_)
  simp only [List.pop_toArray,List.dropLast]
  iterate 3 (refine⟨_,rfl,?_⟩;apply Exists.intro;refine⟨Or.inl ⟨by rfl,fun w' aR=>?_⟩,?_⟩;(focus (obtain⟨e1,e2,e3⟩:=dO.out w' aR;go_simp<;>with_reducible rfl));simp only [Act.put,tkgZ])
  obtain⟨u0,ax⟩:∃w0,R.drew=w0:=⟨_,rfl⟩
  have ah:Below R.heap.size R u0:=by rw [<-ax];exact BS.out
  rw [ax]
  clear ax hS
  refine Zc 3 (by kernel_rfl) rfl (fun K j=>?_)
  go_simp
  refine (dV.out u0 ah).mono ?_
  rintro e u1 ⟨hh,hc,rfl,hrow,a7⟩
  have Q:=Zb ah a7
  have aN:Hid (ZQ u0.heap.size u1 hh hc p/\R.heap.size<=u0.heap.size):=⟨hrow,ah.size⟩
  refine j.out _ _ (fun b o _=>Q.block b o) (fun _=>?_)
  clear j K hrow a7 ah
  refine Zc 4 (by kernel_rfl) rfl (fun K j=>?_)
  go_simp
  obtain⟨u2,t⟩:∃w8,u1.alloc (.cells #[.int .i64 nx,.slice (some ⟨hh,0,none⟩) p.length hc] 161)=w8:=⟨_,rfl⟩
  have r:=balZ t
  have d4:=nalZ t
  have av:=altZ t
  have s:=Zb Q r
  have cI:Hid (ZQ u0.heap.size u2 hh hc p/\hh<u1.heap.size):=⟨aN.out.1.below r,aN.out.1.lt.2⟩
  have d0:Hid (Z2 w.heap.size u2 g ms.length ds):=Zdm e0.out (fun b _ h2=>s.block b h2)
  have bR:u2.ownsRow w.heap.size 161 2 (.slice (some ⟨g,0,none⟩) ms.length ms.length) ms.length (ZG ds):=by
   have:=d0.out.1
   rw [az.out.2.1] at this
   exact this
  have dT:=ZF a5.out
  have cO:w.heap.size<=u2.heap.size:=by have:=HZ.out;have:=A.out.size;have:=s.size;omega
  first | rw [t] | skip
  refine j.out _ _ (fun b o _=>s.block b o) (fun _=>?_)
  clear j K t
  refine Zc 5 (by kernel_rfl) rfl (fun K j=>?_)
  refine Zj u2 rfl (.tmp 42) (.tmp 45) 36 rfl w.heap.size 161 j0 _ 2 32 Tryz.underlying36 dL dw dE dG rfl (by omega) g ms.length ms.length (ZG ds) rfl bR (some ⟨u1.heap.size,0,none⟩) 1 1 [.int .i64 nx,.slice (some ⟨hh,0,none⟩) p.length hc] rfl (Zem d4) (by unfold maxLen;omega) (by omega) cO u2.heap.size rfl ?_
  intro g9 c9 u3 z a4 cc d7
  have Zf:Hid (H<=g/\g<I/\I<=wo.heap.size/\∀x∈ds,x.2.1<wo.heap.size):=by
   have hn:=af.out
   have h1:=az.out.2.2 g (Or.inl rfl)
   refine⟨h1.1,h1.2,by omega,fun x hx=>?_⟩
   obtain⟨i,bv,rfl⟩:=List.getElem_of_mem hx
   have:=az.out.2.2 _ (Or.inr ⟨i,bv,rfl⟩)
   have e:Zu ds i=ds[i]:=by simp [Zu,List.getD,bv]
   rw [e] at this
   omega
  have dN:Hid (Z2 w.heap.size u3 g9 c9 (ds++[(nx,hh,hc,p)])):=by
   have hz:=HZ.out
   have hf:=Zf.out
   have h6:=A.out.size
   have h0:=aN.out.2
   have h1:=aN.out.1.lt
   refine Z2.snoc d0.out (ZfG cI.out.1 (by omega)) (by omega) (fun x hx=>by have:=hf.2.2.2 x hx;omega) (by rw [az.out.2.1];exact z) a4 ?_
   rcases cc with e | e
   · exact Or.inl e.symm
   · exact Or.inr e
  have dp:Hid (g9=g\/u2.heap.size<=g9):=by
   rcases cc with e | e
   · exact Or.inl e.symm
   · exact Or.inr (by omega)
  have l:Hid (∀b,b<R.heap.size->b≠g->u3.heap[b]? =R.heap[b]?):=fun b o hg=>(a4.block b (by have:=s.size;omega) (fun e=>hg (by injection e))).trans (s.block b o)
  have cz:Hid (u2.heap.size<=u3.heap.size/\R.heap.size<=u1.heap.size/\u1.heap.size<u2.heap.size):=⟨a4.size,Q.size,av⟩
  have cb:Hid (u3.os=R.os/\u3.tape=R.tape/\u3.output=R.output):=⟨a4.os.trans s.os,a4.tape.trans s.tape,a4.output.trans s.output⟩
  have d1:Hid (u3.heap[w4.heap.size]? =w5.heap[w4.heap.size]?):=by
   show _=_
   have h5:=bC.out
   have h6:=ae.out.size
   have hf:=Zf.out
   exact (l.out _ (by omega) (by omega)).trans (ae.out.block _ (by omega))
  refine j.out _ _ l.out (fun _=>?_)
  clear j K z a4 cc d7 d4 av bR dT cO s r Q
  refine Zc 6 (by kernel_rfl) rfl (fun K j=>?_)
  go_simp
  refine j.out _ _ l.out (fun _=>?_)
  clear j K
  refine wpAnyH_done (by kernel_rfl) ?_ _
  simp only [Exit.then]
  have ac:Hid (k≠g/\y≠g/\k<R.heap.size/\y<R.heap.size/\k≠y/\k<wo.heap.size/\w.heap.size+1<k/\k≠w4.heap.size/\y≠w.heap.size+1/\w4.heap.size<u3.heap.size/\k<u3.heap.size/\¬(H<=k/\k<I)):=by
   have hz:=HZ.out
   have hn:=af.out
   have hf:=az.out.2.2 g (Or.inl rfl)
   have h6:=A.out.size
   have dP:=ae.out.size
   have h3:=cz.out
   have h5:=bC.out
   refine⟨by omega,by omega,by omega,by omega,by omega,by omega,by omega,by omega,by omega,by omega,by omega,hn.2.2.2.2.2.2.1⟩
  have cl:u3.heap[k]? =some (.cells #[.int .i64 wd,.slice (some ⟨g,0,none⟩) ms.length ms.length,.int .i64 d,.slice O ts.length P,.int .i64 nx] 41):=(l.out k ac.out.2.2.1 ac.out.1).trans cy.out
  obtain⟨f0,f1,f2,f3,f4,ff,ao⟩:=Zk cl
  have dD:=ff 1
  obtain⟨wa,bh⟩:∃wa,u3.setCell ⟨k,1,none⟩ (.slice (some ⟨g9,0,none⟩) (ms.length+1) c9)=wa:=⟨_,rfl⟩
  have cQ:wa.heap[k]? =some (.cells #[.int .i64 wd,.slice (some ⟨g9,0,none⟩) (ms.length+1) c9,.int .i64 d,.slice O ts.length P,.int .i64 nx] 41):=by rw [<-bh];exact heap_setCell_same u3 k 1 _ _ _ cl
  have bH:∀b,b≠k->wa.heap[b]? =u3.heap[b]? :=fun b o=>by rw [<-bh];exact Below.heap_setCell _ ⟨k,1,none⟩ _ b (fun e=>o e)
  have cS:u3.heap.size=wa.heap.size:=by rw [<-bh,Ze]
  have cV:=Za cQ
  have ck:=Za (And.intro bH cS)
  have cM:=Za bh
  clear cQ bH cS bh
  go_wp2_with fail
  refine NoPanic.normal ?_
  first | rw [cM.out] | skip
  clear f0 f1 f2 f3 f4 ff dD cl ao
  obtain⟨f0,f1,f2,f3,f4,ff,ao⟩:=Zk cV.out
  have dA:=ff 2
  have dM:=ff 3
  have c5:Two wa w4.heap.size (.int .i64 LD) (.slice va LT.length vc) 39:=((ck.out.1 _ (fun e=>ac.out.2.2.2.2.2.2.2.1 e.symm)).trans d1.out).trans dH.out
  have x0:=c5.c0
  have x1:=c5.c1
  obtain⟨wb,bf⟩:∃wb,(wa.setCell ⟨k,2,none⟩ (.int .i64 LD)).setCell ⟨k,3,none⟩ (.slice va LT.length vc)=wb:=⟨_,rfl⟩
  have E:wb.heap[k]? =some (.cells #[.int .i64 wd,.slice (some ⟨g9,0,none⟩) (ms.length+1) c9,.int .i64 LD,.slice va LT.length vc,.int .i64 nx] 41):=by
   rw [<-bf]
   have h1:(wa.setCell ⟨k,2,none⟩ (.int .i64 LD)).heap[k]? =some (.cells #[.int .i64 wd,.slice (some ⟨g9,0,none⟩) (ms.length+1) c9,.int .i64 LD,.slice O ts.length P,.int .i64 nx] 41):=heap_setCell_same wa k 2 _ _ _ cV.out
   exact heap_setCell_same _ k 3 _ _ _ h1
  have bN:∀b,b≠k->wb.heap[b]? =wa.heap[b]? :=fun b o=>by rw [<-bf];exact (Below.heap_setCell _ ⟨k,3,none⟩ _ b (fun e=>o e)).trans (Below.heap_setCell _ ⟨k,2,none⟩ _ b (fun e=>o e))
  have cL:wa.heap.size=wb.heap.size:=by rw [<-bf,Ze,Ze]
  have da:=Za E
  have cx:=Za (And.intro bN cL)
  have cE:=Za bf
  clear E bN cL bf ff c5
  go_upto_region 9 with fail
  first | rw [cE.out] | skip
  clear f0 f1 f2 f3 f4 dA dM ao x0 x1
  obtain⟨f0,f1,f2,f3,f4,ff,ao⟩:=Zk da.out
  have dr:=ff 4
  obtain⟨wc,aJ⟩:∃wc,wb.setCell ⟨k,4,none⟩ (.int .i64 (nx+1))=wc:=⟨_,rfl⟩
  have cX:wc.heap[k]? =some (.cells #[.int .i64 wd,.slice (some ⟨g9,0,none⟩) (ms.length+1) c9,.int .i64 LD,.slice va LT.length vc,.int .i64 (nx+1)] 41):=by rw [<-aJ];exact heap_setCell_same wb k 4 _ _ _ da.out
  have bV:∀b,b≠k->wc.heap[b]? =u3.heap[b]? :=fun b o=>by rw [<-aJ];exact ((Below.heap_setCell _ ⟨k,4,none⟩ _ b (fun e=>o e)).trans (cx.out.1 b o)).trans (ck.out.1 b o)
  have d2:u3.heap.size=wc.heap.size:=by rw [<-aJ,Ze];exact ck.out.2.trans cx.out.2
  have dt:=Za cX
  have aO:=Za (And.intro bV d2)
  have ci:=Za aJ
  have dv:wrap64 (nx+1)=nx+1:=by have:=du.out;unfold wrap64;omega
  clear cX bV d2 aJ ff
  go_upto_region 10 with fail
  first | rw [dv,ci.out] | rw [ci.out] | skip
  clear f0 f1 f2 f3 f4 dr ao
  have de:Two wc y (.int .i64 nx) (.slice ap p.length cp) 161:=(aO.out.1 y (fun e=>ac.out.2.2.2.2.1 e.symm)).trans ((l.out y ac.out.2.2.2.1 ac.out.2.1).trans dc.out)
  have dl:Hid (∀N:World,N.heap[k]? =wc.heap[k]? ->N.heap[y]? =wc.heap[y]? ->(N.cell? ⟨k,0,none⟩=some (.int .i64 wd)/\N.cell? ⟨k,1,none⟩=some (.slice (some ⟨g9,0,none⟩) (ms.length+1) c9)/\N.cell? ⟨k,2,none⟩=some (.int .i64 LD)/\N.cell? ⟨k,3,none⟩=some (.slice va LT.length vc)/\N.cell? ⟨k,4,none⟩=some (.int .i64 (nx+1)))/\N.cell? ⟨y,0,none⟩=some (.int .i64 nx)):=fun N h1 h2=>by
   obtain⟨i0,i1,i2,i3,i4,-,-⟩:=Zk dt.out
   exact⟨⟨(World.cell?_of_block (a:=⟨k,0,none⟩) h1).trans i0,(World.cell?_of_block (a:=⟨k,1,none⟩) h1).trans i1,(World.cell?_of_block (a:=⟨k,2,none⟩) h1).trans i2,(World.cell?_of_block (a:=⟨k,3,none⟩) h1).trans i3,(World.cell?_of_block (a:=⟨k,4,none⟩) h1).trans i4⟩,(World.cell?_of_block (a:=⟨y,0,none⟩) h2).trans de.c0⟩
  clear de
  refine Zl (S:=fun N=>N.heap[k]? =wc.heap[k]? /\N.heap[y]? =wc.heap[y]?) (fuel:=2) [0,1,2] (by kernel_rfl) (by kernel_rfl) (by kernel_rfl) (by kernel_rfl) ⟨rfl,rfl⟩ (fun _=>?_)
  iterate 3 (refine⟨_,rfl,?_⟩;apply Exists.intro;refine⟨Or.inl ⟨by rfl,fun w' aR=>?_⟩,?_⟩;(focus (obtain⟨⟨e1,e2,e3,e4,e5⟩,e6⟩:=dl.out w' aR.1 aR.2;go_simp<;>with_reducible rfl));simp only [Act.put,tkgZ])
  obtain⟨V,hV⟩:∃V,wc.drew=V:=⟨_,rfl⟩
  have bA:V.heap=wc.heap:=by rw [<-hV];rfl
  have cR:Hid (Below wc.heap.size wc V):=by show Below _ _ _;rw [<-hV];exact (Below.refl _ _).drew
  rw [hV]
  clear hV
  have cr:V.heap[w.heap.size+1]? =some (.cells #[.int .i64 0,.slice none 0 0,.int .i64 0,.slice none 0 0,.int .i64 0] 41):=by
   rw [bA]
   have hz:=HZ.out
   have hf:=Zf.out
   have hn:=af.out
   have h6:=A.out.size
   have dd:=ac.out
   exact (aO.out.1 _ (by omega)).trans ((l.out _ (by omega) (by omega)).trans ((A.out.block _ (by omega)).trans aK.out))
  obtain⟨r0,r1,r2,r3,r4,n,J⟩:=Zk cr
  have a2:=n 0
  have a0:=n 1
  have Z:=n 2
  have a3:=n 3
  have a1:=n 4
  have t6:_=some (Obj.cells #[.int .i64 wd,.slice (some ⟨g9,0,none⟩) (ms.length+1) c9,.int .i64 LD,.slice va LT.length vc,.int .i64 (nx+1)] 41):=ZaG cr
  obtain⟨q0,q1,q2,q3,q4,-,-⟩:=Zk t6
  refine Zc 3 (by kernel_rfl) rfl (fun K j=>?_)
  go_simp
  obtain⟨C,B⟩:∃C,((((V.setCell ⟨w.heap.size+1,0,none⟩ (.int .i64 wd)).setCell ⟨w.heap.size+1,1,none⟩ (.slice (some ⟨g9,0,none⟩) (ms.length+1) c9)).setCell ⟨w.heap.size+1,2,none⟩ (.int .i64 LD)).setCell ⟨w.heap.size+1,3,none⟩ (.slice va LT.length vc)).setCell ⟨w.heap.size+1,4,none⟩ (.int .i64 (nx+1))=C:=⟨_,rfl⟩
  have far:∀b,b≠w.heap.size+1->C.heap[b]? =wc.heap[b]? :=fun b o=>by rw [<-B,<-bA];exact ZaB o
  have an:C.heap.size=wc.heap.size:=by rw [<-B,<-bA];simp [World.setCell]
  have bD:=Za (And.intro far an)
  have HQ:Hid (C.cell? ⟨w.heap.size+1,0,none⟩=some (.int .i64 wd)/\C.cell? ⟨w.heap.size+1,1,none⟩=some (.slice (some ⟨g9,0,none⟩) (ms.length+1) c9)/\C.cell? ⟨w.heap.size+1,2,none⟩=some (.int .i64 LD)/\C.cell? ⟨w.heap.size+1,3,none⟩=some (.slice va LT.length vc)/\C.cell? ⟨w.heap.size+1,4,none⟩=some (.int .i64 (nx+1))):=by
   rw [B] at q0 q1 q2 q3 q4
   exact⟨q0,q1,q2,q3,q4⟩
  have cB:Hid (C.heap[k]? =wc.heap[k]? /\C.heap[y]? =wc.heap[y]?):=⟨far _ (by have:=ac.out;omega),far _ (by have:=ac.out;omega)⟩
  have bX:Hid (C.os=wc.os/\C.tape=wc.tape/\C.output=wc.output):=by
   have h:=cR.out
   rw [<-B]
   exact⟨h.os,h.tape,h.output⟩
  rw [B]
  clear far an B cr t6 n a2 a0 Z a3 a1 r0 r1 r2 r3 r4 q0 q1 q2 q3 q4 bA cR J
  refine j.out _ _ cB.out (fun _=>?_)
  clear j K
  refine Zc 4 (by kernel_rfl) rfl (fun K j=>?_)
  go_simp
  refine j.out _ _ cB.out (fun _=>?_)
  clear j K
  refine wpAnyH_done (by kernel_rfl) ?_ _
  refine NoPanic.normal ?_
  try simp only [Exit.then]
  obtain⟨q0,q1,q2,q3,q4⟩:=HQ.out
  go_wp2_with fail
  refine bodyPost_ret (v:=.tuple #[.agg #[.int .i64 wd,.slice (some ⟨g9,0,none⟩) (ms.length+1) c9,.int .i64 LD,.slice va LT.length vc,.int .i64 (nx+1)],.int .i64 nx]) (by simp [results,Tryz.results87,go_sem,q0,q1,q2,q3,q4]) rfl ?_
  have hz:=HZ.out
  have hf:=Zf.out
  have hn:=af.out
  have h6:=A.out.size
  have dP:=ae.out.size
  have h5:=bC.out
  have h3:=cz.out
  have dd:=ac.out
  have h1:=aN.out
  have h2:=cI.out.2
  have eo:=aN.out.1.lt
  have h9:=dp.out
  have eB:=bD.out.2
  have eq:=aO.out.2
  have c8:∀b,FtM g9 (ds++[(nx,hh,hc,p)]) b->w.heap.size+1<b/\b≠k/\¬Btw wo.heap.size w4.heap.size b:=fun b o=>by
   have dY:b=g9\/FtM g ds b\/b=hh:=by
    rcases o with o | ⟨i,bv,rfl⟩
    · exact Or.inl o
    · rw [List.length_append,List.length_singleton] at bv
      rcases Nat.lt_or_ge i ds.length with h | h
      · refine Or.inr (Or.inl (Or.inr ⟨i,h,?_⟩))
        simp [Zu,List.getD,List.getElem?_append_left h]
      · have e:i=ds.length:=by omega
        subst e
        refine Or.inr (Or.inr ?_)
        simp [Zu,List.getD]
   have db:=az.out.2.2
   have hg:=db g (Or.inl rfl)
   rcases dY with rfl | h | rfl
   · refine⟨by rcases h9 with e | e <;> omega,by rcases h9 with e | e <;> omega,fun hq=>?_⟩
     have:=hq.1
     have:=hq.2
     rcases h9 with e | e <;> omega
   · have h':=db b h
     refine⟨by omega,by omega,fun hq=>?_⟩
     have:=hq.1
     omega
   · refine⟨by omega,by omega,fun hq=>?_⟩
     have:=hq.2
     omega
  have dm:Z2 w.heap.size C g9 c9 (ds++[(nx,hh,hc,p)]):=Zes dN.out (fun b o=>by
   obtain⟨b1,b2,-⟩:=c8 b o
   exact (bD.out.1 b (by omega)).trans (aO.out.1 b b2))
  have dC:TsO true (Btw wo.heap.size w4.heap.size) C (.slice va LT.length vc) LT:=dW.out.sm ⟨by omega,fun b o=>by
   have b1:=o.1
   have b2:=o.2
   exact (bD.out.1 b (by omega)).trans ((aO.out.1 b (by omega)).trans ((l.out b (by omega) (by omega)).trans (ae.out.block b (by omega))))⟩
  have hst:StO true (Btw w.heap.size C.heap.size) C (.agg #[.int .i64 wd,.slice (some ⟨g9,0,none⟩) (ms.length+1) c9,.int .i64 LD,.slice va LT.length vc,.int .i64 (nx+1)]) wd (ms++[(nx,p)]) LD LT (nx+1):=by
   have dX:=ZF (ZfE aS.out.1 aY.out.2.2)
   rw [List.length_append,List.length_singleton] at dX
   have eC:=dJ.out
   refine Zhd wd LD (nx+1) dm (by simp [Zs,<-az.out.1]) (by simp) (by simp;omega) (fun x hx=>?_) dC (fun b o=>⟨by have:=(c8 b o).1;omega,(c8 b o).2.2⟩) (fun b o=>by have:=o.1;omega)
   rcases List.mem_append.1 hx with hx | hx
   · exact ZaS a5.out x hx
   · rw [List.mem_singleton.1 hx];exact cC.out.2
  have cj:wc.os=u3.os/\wc.tape=u3.tape/\wc.output=u3.output:=by rw [<-ci.out,<-cE.out,<-cM.out];exact⟨rfl,rfl,rfl⟩
  have br:=Zb aT.out A.out
  have BZ:Below w.heap.size w C:=
   { os:=bX.out.1.trans (cj.1.trans (cb.out.1.trans br.os))
     tape:=bX.out.2.1.trans (cj.2.1.trans (cb.out.2.1.trans br.tape))
     output:=bX.out.2.2.trans (cj.2.2.trans (cb.out.2.2.trans br.output))
     size:=by omega
     block:=fun b o=>(bD.out.1 b (by omega)).trans ((aO.out.1 b (by omega)).trans ((l.out b (by omega) (by omega)).trans (br.block b o))) }
  rw [cu.out]
  refine⟨_,rfl,?_,BZ⟩
  show StO true _ C _ wd (ms++[(nx,p)]) (ZfC (nx,p) ts d) (Zb2 (nx,p) ts d) (nx+1)
  rw [aY.out.1,aY.out.2.1]
  exact hst
theorem Zkv:Z0 [] []:=⟨⟨by simp,fun i=>by simp [mat]⟩,(Em.small (w:=(default:World)) (Or.inl ⟨rfl,rfl⟩)).2.1,(Em.small (w:=(default:World)) (Or.inl ⟨rfl,rfl⟩)).2.2⟩
structure St5 where
 wd:Int
 ms:List Mk
 d:Int
 ts:List Wb
 nx:Int
def ZjY:St5:=⟨0,[],0,[],0⟩
def St5.In(s:St5)(w:World)(v:Value):Prop:=StV w v s.wd s.ms s.d s.ts s.nx
def St5.ok(s:St5):Bool:=stB s.wd s.ms s.d s.ts s.nx
def St5.Sm(s:St5):Prop:=Z0 s.ms s.ts
def ZdV(s:St5)(p:List Int):St5:=if s.ok=true then ⟨s.wd,kpMs (kpB s.wd s.nx s.d p s.ts) s.ms s.nx p,kpDd (kpB s.wd s.nx s.d p s.ts) s.nx p s.ts s.d,kpTs (kpB s.wd s.nx s.d p s.ts) s.nx p s.ts s.d,kpNx (kpB s.wd s.nx s.d p s.ts) s.nx⟩ else ZjY
def ZeO(s:St5)(p:List Int):Int:=if s.ok=true then kpRr (kpB s.wd s.nx s.d p s.ts) s.nx else -1
def ZdU(s:St5)(id:Int):St5:=if s.ok=true then ⟨s.wd,Zaa s.ms id,s.d,s.ts,s.nx⟩ else ZjY
def Zd5(s:St5)(id:Int):Bool:=s.ok && decide (0<=ZC s.ms id)
theorem St5.In.next{s:St5}{w w':World}{v:Value}(h:s.In w v)(L:Below w.heap.size w w'):s.In w' v:=StV.next h L
def St5.Out(s:St5)(S:Nat->Prop)(w:World)(v:Value):Prop:=StO true S w v s.wd s.ms s.d s.ts s.nx
theorem Zn0(s:St5)(v:Value)(ap:Option Addr)(cp:Nat)(p:List Int)(w:World)(h:s.In w v)(hs:s.Sm)(hok:s.ok=true)(hp:Zy w ap p)(hl:p.length<=1048576):
 Calls Tryz.prog 87 #[v,.slice ap p.length cp] w fun e w'=>∃x,e=.returned (.tuple #[x,.int .i64 (ZeO s p)])/\(ZdV s p).Out (Btw w.heap.size w'.heap.size) w' x/\Below w.heap.size w w':=by
 obtain⟨j,b,i,c,rfl,a,g⟩:=h
 refine (ZnZ j i b c s.wd s.ms s.d s.ts s.nx ap cp p w a g hp hl hs hok).mono ?_
 rintro e w' ⟨x,rfl,f,L⟩
 unfold ZeO ZdV
 rw [hok]
 exact⟨x,rfl,f,L⟩
theorem Zn1(s:St5)(v:Value)(id:Int)(w:World)(h:s.In w v)(hs:s.Sm)(hok:s.ok=true):
 Calls Tryz.prog 88 #[v,.int .i64 id] w fun e w'=>∃x,e=.returned (.tuple #[x,.bool (Zd5 s id)])/\(ZdU s id).Out (Btw w.heap.size w'.heap.size) w' x/\Below w.heap.size w w':=by
 obtain⟨l,c,j,f,rfl,b,i⟩:=h
 obtain⟨a,k,-,-⟩:=ZaY hok
 refine (iGone l j c f s.wd s.ms s.d s.ts s.nx id w b i hs hok a k).mono ?_
 rintro e w' ⟨x,rfl,g,L⟩
 unfold Zd5 ZdU
 rw [hok]
 exact⟨x,rfl,g,L⟩
def ZeG(s:St5)(kd id:Int)(p:List Int):St5:=if (kd ==1)=true then ZdV s p else ZdU s id
def ZdT(s:St5)(kd id:Int)(p:List Int):Int:=if (kd ==1)=true then ZeO s p else if Zd5 s id=true then 1 else 0
theorem as_KK(v:Value)(w:World):Sem.run Tryz.prog (Instr.typeAssert (.iface 130 v) 92 130 true) w=.ok (.tuple #[v,.bool true]) w:=by kernel_rfl
theorem as_GK(v:Value)(w:World):Sem.run Tryz.prog (Instr.typeAssert (.iface 133 v) 92 130 true) w=.ok (.tuple #[.agg #[.slice none 0 0],.bool false]) w:=by kernel_rfl
theorem as_GG(v:Value)(w:World):Sem.run Tryz.prog (Instr.typeAssert (.iface 133 v) 92 133 true) w=.ok (.tuple #[v,.bool true]) w:=by kernel_rfl
theorem ZfH(w:World)(o:Obj):(w.alloc o).heap.size=w.heap.size+1:=by simp
theorem St5.Out.sm{t:St5}{S:Nat->Prop}{w w':World}{v:Value}(h:t.Out S w v)(k:Sta S w w'):t.Out S w' v:=StO.sm h k
theorem St5.Out.mono{t:St5}{S T:Nat->Prop}{w:World}{v:Value}(h:t.Out S w v)(ht:∀b,T b->b<w.heap.size)(k:∀b,S b->T b):t.Out T w v:=StO.mono h ht k
theorem Zpj(s:St5)(v:Value)(ap:Option Addr)(cp:Nat)(p:List Int)(w:World)(h:s.In w v)(hs:s.Sm)(hok:s.ok=true)(hp:Zy w ap p)(hl:p.length<=1048576):
 Calls Tryz.prog 50 #[v,.iface 130 (.agg #[.slice ap p.length cp])] w fun e w'=>∃x,e=.returned (.tuple #[x,.int .i64 (ZeO s p)])/\(ZdV s p).Out (Btw w.heap.size w'.heap.size) w' x/\Below w.heap.size w w':=by
 have q:=h
 obtain⟨U,R,T,N,rfl,hm,Z⟩:=h
 have G:=Za (fun (W:World) (L:Below w.heap.size w W)=>Zn0 s _ ap cp p W (q.next L) hs hok (hp.next L) hl)
 have AK:=fun w1=>as_KK (.agg #[.slice ap p.length cp]) w1
 obtain⟨t,J⟩:∃t,ZdV s p=t:=⟨_,rfl⟩
 obtain⟨C,u⟩:∃C,ZeO s p=C:=⟨_,rfl⟩
 rw [J,u] at G ⊢
 clear hp J u
 obtain⟨m,c⟩:∃m,((w.alloc (.cells #[.int .i64 s.wd,.slice U s.ms.length R,.int .i64 s.d,.slice T s.ts.length N,.int .i64 s.nx] 41)).alloc (.cells #[.int .i64 0,.slice none 0 0,.int .i64 0,.slice none 0 0,.int .i64 0] 41)).alloc (.cells #[.slice ap p.length cp] 130)=m:=⟨_,rfl⟩
 have z:m.heap.size=w.heap.size+3:=by rw [<-c];simp
 have o:Below w.heap.size w m:=by rw [<-c];exact (((Below.refl _ _).alloc (Nat.le_refl _) _).alloc (by simp) _).alloc (by simp;omega) _
 have y:m.heap[w.heap.size+1]? =some (.cells #[.int .i64 0,.slice none 0 0,.int .i64 0,.slice none 0 0,.int .i64 0] 41):=by
  rw [<-c]
  have V:=heap_alloc_new (w.alloc (.cells #[.int .i64 s.wd,.slice U s.ms.length R,.int .i64 s.d,.slice T s.ts.length N,.int .i64 s.nx] 41)) (.cells #[.int .i64 0,.slice none 0 0,.int .i64 0,.slice none 0 0,.int .i64 0] 41)
  rw [ZfH] at V
  exact ((((Below.refl _ _).alloc (Nat.le_refl _) _):Below _ _ _).block (w.heap.size+1) (by simp)).trans V
 have Q:=Za c
 have H:=Za o
 have M:=Za y
 have HZ:=Za z
 clear hm Z q hs hok c o y z
 go_enter Tryz.func50,Tryz.ntmps50
 go_wp2_with fail
 rw [Q.out]
 refine (G.out m H.out).mono ?_
 rintro e A ⟨x,rfl,F,B⟩
 have a7:=HZ.out
 obtain⟨i,g,f,j,rfl,c1,c2,hv⟩:=F.view
 have I:=(B.block (w.heap.size+1) (by omega)).trans M.out
 obtain⟨r0,r1,r2,r3,r4,n,-⟩:=Zk I
 have f0:=n 0
 have f1:=n 1
 have f2:=n 2
 have f3:=n 3
 have f4:=n 4
 have O:=Zb H.out B
 have D:m.heap.size<=A.heap.size:=B.size
 clear B hv G H Q M AK
 obtain⟨l,a⟩:∃l,((((A.setCell ⟨w.heap.size+1,0,none⟩ (.int .i64 t.wd)).setCell ⟨w.heap.size+1,1,none⟩ (.slice i t.ms.length g)).setCell ⟨w.heap.size+1,2,none⟩ (.int .i64 t.d)).setCell ⟨w.heap.size+1,3,none⟩ (.slice f t.ts.length j)).setCell ⟨w.heap.size+1,4,none⟩ (.int .i64 t.nx)=l:=⟨_,rfl⟩
 have K:_=some (Obj.cells #[.int .i64 t.wd,.slice i t.ms.length g,.int .i64 t.d,.slice f t.ts.length j,.int .i64 t.nx] 41):=ZaG I
 obtain⟨q0,q1,q2,q3,q4,-,-⟩:=Zk K
 have far:∀b,b≠w.heap.size+1->l.heap[b]? =A.heap[b]? :=fun b k=>by rw [<-a];exact ZaB k
 have Y:l.heap.size=A.heap.size:=by rw [<-a];simp [World.setCell]
 have X:Below w.heap.size w l:=by
  have r:w.heap.size<=w.heap.size+1:=by omega
  rw [<-a];exact (((((O.setCell (p:=⟨w.heap.size+1,0,none⟩) r _).setCell (p:=⟨w.heap.size+1,1,none⟩) r _).setCell (p:=⟨w.heap.size+1,2,none⟩) r _).setCell (p:=⟨w.heap.size+1,3,none⟩) r _).setCell (p:=⟨w.heap.size+1,4,none⟩) r _)
 have P:t.Out (Btw w.heap.size l.heap.size) l (.agg #[.int .i64 t.wd,.slice i t.ms.length g,.int .i64 t.d,.slice f t.ts.length j,.int .i64 t.nx]):=
  (F.sm (w':=l) ⟨by omega,fun b k=>far b (by have:=k.1;omega)⟩).mono (fun b k=>k.2) (fun b k=>⟨by have:=k.1;omega,by have:=k.2;omega⟩)
 have S:=Za (And.intro P X)
 have E:=Za a
 clear P X a far K F O I D n
 go_wp2_with fail
 refine bodyPost_ret (v:=.tuple #[.agg #[.int .i64 t.wd,.slice i t.ms.length g,.int .i64 t.d,.slice f t.ts.length j,.int .i64 t.nx],.int .i64 C]) (by simp [results,Tryz.results50,go_sem,q0,q1,q2,q3,q4]) rfl ?_
 rw [E.out]
 exact⟨_,rfl,S.out.1,S.out.2⟩
theorem Zpk(s:St5)(v:Value)(id:Int)(w:World)(h:s.In w v)(hs:s.Sm)(hok:s.ok=true):
 Calls Tryz.prog 50 #[v,.iface 133 (.agg #[.int .i64 id])] w fun e w'=>∃x,e=.returned (.tuple #[x,.int .i64 (if Zd5 s id=true then 1 else 0)])/\(ZdU s id).Out (Btw w.heap.size w'.heap.size) w' x/\Below w.heap.size w w':=by
 have E:=h
 obtain⟨am,cm,aw,cw,rfl,hm,hw⟩:=h
 have HK:=Za (fun (W:World) (L:Below w.heap.size w W)=>Zn1 s _ id W (E.next L) hs hok)
 have AK:=fun w1=>as_GK (.agg #[.int .i64 id]) w1
 have AG:=fun w1=>as_GG (.agg #[.int .i64 id]) w1
 obtain⟨t,ht⟩:∃t,ZdU s id=t:=⟨_,rfl⟩
 obtain⟨rr,K⟩:∃rr,Zd5 s id=rr:=⟨_,rfl⟩
 rw [ht,K] at HK ⊢
 clear ht K
 obtain⟨A,q⟩:∃A,((w.alloc (.cells #[.int .i64 s.wd,.slice am s.ms.length cm,.int .i64 s.d,.slice aw s.ts.length cw,.int .i64 s.nx] 41)).alloc (.cells #[.int .i64 0,.slice none 0 0,.int .i64 0,.slice none 0 0,.int .i64 0] 41)).alloc (.cells #[.int .i64 id] 133)=A:=⟨_,rfl⟩
 have M:A.heap.size=w.heap.size+3:=by rw [<-q];simp
 have B:Below w.heap.size w A:=by rw [<-q];exact (((Below.refl _ _).alloc (Nat.le_refl _) _).alloc (by simp) _).alloc (by simp;omega) _
 have I:A.heap[w.heap.size+1]? =some (.cells #[.int .i64 0,.slice none 0 0,.int .i64 0,.slice none 0 0,.int .i64 0] 41):=by
  rw [<-q]
  have h1:=heap_alloc_new (w.alloc (.cells #[.int .i64 s.wd,.slice am s.ms.length cm,.int .i64 s.d,.slice aw s.ts.length cw,.int .i64 s.nx] 41)) (.cells #[.int .i64 0,.slice none 0 0,.int .i64 0,.slice none 0 0,.int .i64 0] 41)
  rw [ZfH] at h1
  exact ((((Below.refl _ _).alloc (Nat.le_refl _) _):Below _ _ _).block (w.heap.size+1) (by simp)).trans h1
 have HW:=Za q
 have HB:=Za B
 have HR:=Za I
 have HZ:=Za M
 clear hm hw E hs hok q B I M
 go_enter Tryz.func50,Tryz.ntmps50
 go_wp2_with fail
 rw [HW.out]
 refine (HK.out A HB.out).mono ?_
 rintro e y ⟨x,rfl,hx,T⟩
 have aE:=HZ.out
 obtain⟨f,g,i,c,rfl,c1,c2,hv⟩:=hx.view
 have hR:=(T.block (w.heap.size+1) (by omega)).trans HR.out
 obtain⟨P,O,Y,R,Q,m,-⟩:=Zk hR
 have Z:=m 0
 have f1:=m 1
 have X:=m 2
 have N:=m 3
 have S:=m 4
 obtain⟨l,r⟩:∃l,y.alloc (.cells #[.int .i64 t.wd,.slice f t.ms.length g,.int .i64 t.d,.slice i t.ts.length c,.int .i64 t.nx] 41)=l:=⟨_,rfl⟩
 have U:=balZ r
 have h4:=nalZ r
 have V:=Zb (Zb HB.out T) U
 have av:A.heap.size<=y.heap.size:=T.size
 have u:=hx.sm (w':=l) (Sta.below U (fun b j=>j.2))
 have F:=salZ r
 have n:=(U.block (w.heap.size+1) (by omega)).trans hR
 clear P O Y R Q Z f1 X N S m
 obtain⟨P,O,Y,R,Q,m,-⟩:=Zk n
 have Z:=m 0
 have f1:=m 1
 have X:=m 2
 have N:=m 3
 have S:=m 4
 obtain⟨x0,x1,x2,x3,x4,-,-⟩:=Zk h4
 have a2:=Za F
 have D:=Za r
 clear T hv HK HB HW HR AK AG U h4 hx hR F r
 have az:y.heap.size<=l.heap.size:=by have:=a2.out;omega
 cases rr with
 | true=>
   go_wp2_with (rw [D.out])
   clear x0 x1 x2 x3 x4 P O Y R Q Z f1 X N S
   obtain⟨k,a⟩:∃k,((((l.setCell ⟨w.heap.size+1,0,none⟩ (.int .i64 t.wd)).setCell ⟨w.heap.size+1,1,none⟩ (.slice f t.ms.length g)).setCell ⟨w.heap.size+1,2,none⟩ (.int .i64 t.d)).setCell ⟨w.heap.size+1,3,none⟩ (.slice i t.ts.length c)).setCell ⟨w.heap.size+1,4,none⟩ (.int .i64 t.nx)=k:=⟨_,rfl⟩
   have G:_=some (Obj.cells #[.int .i64 t.wd,.slice f t.ms.length g,.int .i64 t.d,.slice i t.ts.length c,.int .i64 t.nx] 41):=ZaG n
   obtain⟨q0,q1,q2,q3,q4,-,-⟩:=Zk G
   have far:∀b,b≠w.heap.size+1->k.heap[b]? =l.heap[b]? :=fun b j=>by rw [<-a];exact ZaB j
   have a1:k.heap.size=l.heap.size:=by rw [<-a];simp [World.setCell]
   have J:Below w.heap.size w k:=by
    have o:w.heap.size<=w.heap.size+1:=by omega
    rw [<-a];exact (((((V.setCell (p:=⟨w.heap.size+1,0,none⟩) o _).setCell (p:=⟨w.heap.size+1,1,none⟩) o _).setCell (p:=⟨w.heap.size+1,2,none⟩) o _).setCell (p:=⟨w.heap.size+1,3,none⟩) o _).setCell (p:=⟨w.heap.size+1,4,none⟩) o _)
   have C:t.Out (Btw w.heap.size k.heap.size) k (.agg #[.int .i64 t.wd,.slice f t.ms.length g,.int .i64 t.d,.slice i t.ts.length c,.int .i64 t.nx]):=
    (u.sm (w':=k) ⟨by omega,fun b j=>far b (by have:=j.1;omega)⟩).mono (fun b j=>j.2) (fun b j=>⟨by have:=j.1;omega,by have:=j.2;omega⟩)
   have H:=Za (And.intro C J)
   have z:=Za a
   clear C J a far G u V n
   refine bodyPost_ret (v:=.tuple #[.agg #[.int .i64 t.wd,.slice f t.ms.length g,.int .i64 t.d,.slice i t.ts.length c,.int .i64 t.nx],.int .i64 1]) (by simp [results,Tryz.results50,go_sem,q0,q1,q2,q3,q4]) rfl ?_
   rw [z.out]
   exact⟨_,rfl,H.out.1,H.out.2⟩
 | false=>
   go_wp2_with (rw [D.out])
   clear x0 x1 x2 x3 x4 P O Y R Q Z f1 X N S
   obtain⟨k,a⟩:∃k,((((l.setCell ⟨w.heap.size+1,0,none⟩ (.int .i64 t.wd)).setCell ⟨w.heap.size+1,1,none⟩ (.slice f t.ms.length g)).setCell ⟨w.heap.size+1,2,none⟩ (.int .i64 t.d)).setCell ⟨w.heap.size+1,3,none⟩ (.slice i t.ts.length c)).setCell ⟨w.heap.size+1,4,none⟩ (.int .i64 t.nx)=k:=⟨_,rfl⟩
   have G:_=some (Obj.cells #[.int .i64 t.wd,.slice f t.ms.length g,.int .i64 t.d,.slice i t.ts.length c,.int .i64 t.nx] 41):=ZaG n
   obtain⟨q0,q1,q2,q3,q4,-,-⟩:=Zk G
   have far:∀b,b≠w.heap.size+1->k.heap[b]? =l.heap[b]? :=fun b j=>by rw [<-a];exact ZaB j
   have a1:k.heap.size=l.heap.size:=by rw [<-a];simp [World.setCell]
   have J:Below w.heap.size w k:=by
    have o:w.heap.size<=w.heap.size+1:=by omega
    rw [<-a];exact (((((V.setCell (p:=⟨w.heap.size+1,0,none⟩) o _).setCell (p:=⟨w.heap.size+1,1,none⟩) o _).setCell (p:=⟨w.heap.size+1,2,none⟩) o _).setCell (p:=⟨w.heap.size+1,3,none⟩) o _).setCell (p:=⟨w.heap.size+1,4,none⟩) o _)
   have C:t.Out (Btw w.heap.size k.heap.size) k (.agg #[.int .i64 t.wd,.slice f t.ms.length g,.int .i64 t.d,.slice i t.ts.length c,.int .i64 t.nx]):=
    (u.sm (w':=k) ⟨by omega,fun b j=>far b (by have:=j.1;omega)⟩).mono (fun b j=>j.2) (fun b j=>⟨by have:=j.1;omega,by have:=j.2;omega⟩)
   have H:=Za (And.intro C J)
   have z:=Za a
   clear C J a far G u V n
   refine bodyPost_ret (v:=.tuple #[.agg #[.int .i64 t.wd,.slice f t.ms.length g,.int .i64 t.d,.slice i t.ts.length c,.int .i64 t.nx],.int .i64 0]) (by simp [results,Tryz.results50,go_sem,q0,q1,q2,q3,q4]) rfl ?_
   rw [z.out]
   exact⟨_,rfl,H.out.1,H.out.2⟩
theorem iDone(s:St5)(v:Value)(cl sq kd id:Int)(ap:Option Addr)(cp:Nat)(p:List Int)(w:World)(h:s.In w v)(hs:s.Sm)(hok:s.ok=true)(hp:Zy w ap p)(hl:p.length<=1048576)(hc:cmB cl sq kd id p=true):
 Calls Tryz.prog 50 #[v,shV ap cp kd id p] w fun e w'=>∃x,e=.returned (.tuple #[x,.int .i64 (ZdT s kd id p)])/\(ZeG s kd id p).Out (Btw w.heap.size w'.heap.size) w' x/\Below w.heap.size w w':=by
 unfold cmB at hc
 simp only [Bool.and_eq_true] at hc
 obtain⟨-,-,hc⟩:=hc
 unfold ZdT ZeG shV
 rcases hk:(kd ==1) with _ | _
 · rw [hk] at hc
   rcases hk2:(kd ==2) with _ | _
   · rw [hk2] at hc;simp at hc
   · rw [hk2] at hc
     simp only [Bool.false_eq_true,if_false,if_true,Bool.and_eq_true] at hc
     rw [hc.2]
     simp only [Bool.false_and,Bool.and_self,Bool.false_eq_true,if_false,if_true]
     exact Zpk s v id w h hs hok
 · rw [hk] at hc
   simp only [if_true,Bool.and_eq_true] at hc
   rw [hc.1]
   simp only [Bool.and_self,if_true]
   exact Zpj s v ap cp p w h hs hok hp hl
structure DRV(base:Nat)(w:World)(ag:Option Addr)(c:Nat)(og:Option Nat)(ds:List Dm):Prop where
 row:w.ownsRow base 161 2 (.slice ag ds.length c) ds.length (ZG ds)
 own:(Value.slice ag ds.length c).ownBlock=og
 rows:∀d∈ds,Row base w d.2.1 d.2.2.1 d.2.2.2/\og≠some d.2.1
 rise:ds.Pairwise (fun d e=>d.2.1<e.2.1)
theorem DRV.lt{base:Nat}{w:World}{ag:Option Addr}{c:Nat}{og:Option Nat}{ds:List Dm}(h:DRV base w ag c og ds):∀b,og=some b->b<w.heap.size:=fun b e=>(World.ownsRow.lt h.row b (h.own.trans e)).2
theorem DRV.ge{base:Nat}{w:World}{ag:Option Addr}{c:Nat}{og:Option Nat}{ds:List Dm}(h:DRV base w ag c og ds):∀b,og=some b->base<=b:=fun b e=>(World.ownsRow.lt h.row b (h.own.trans e)).1
theorem Z2.drv{base:Nat}{w:World}{g c:Nat}{ds:List Dm}(h:Z2 base w g c ds):DRV base w (some ⟨g,0,none⟩) c (some g) ds:=⟨h.1,rfl,fun d hd=>⟨(h.2.1 d hd).1,fun e=>(h.2.1 d hd).2 (by injection e with e;exact e.symm)⟩,h.2.2⟩
theorem DRV.cases{base:Nat}{w:World}{ag:Option Addr}{c:Nat}{og:Option Nat}{ds:List Dm}(h:DRV base w ag c og ds):(ag=none/\c=0/\og=none/\ds=[])\/∃g,ag=some ⟨g,0,none⟩/\og=some g/\Z2 base w g c ds:=by
 obtain⟨j,a | ⟨g,cap,i,e,l⟩⟩:=h.row
 · obtain⟨e,a⟩:=a
   injection e with e1 e2 e3
   subst e1;subst e3
   exact Or.inl ⟨rfl,rfl,h.own.symm,List.length_eq_zero_iff.1 a⟩
 · have k:=e
   injection e with e1 e2 e3
   subst e1;subst e3
   have b:og=some g:=h.own.symm
   exact Or.inr ⟨g,rfl,b,h.row,fun d f=>⟨(h.rows d f).1,fun e=>(h.rows d f).2 (by rw [b,e])⟩,h.rise⟩
theorem DRV.view{base:Nat}{w:World}{ag:Option Addr}{c:Nat}{og:Option Nat}{ds:List Dm}(h:DRV base w ag c og ds):Zo w ag (Zs ds):=by
 rcases h.cases with ⟨rfl,-,-,rfl⟩ | ⟨g,rfl,-,h⟩
 · exact Or.inl rfl
 · exact h.view
theorem DRV.noD{base D:Nat}{w:World}{ag:Option Addr}{c:Nat}{og:Option Nat}{ds:List Dm}{cs:Array Value}{t:TypeId}(h:DRV base w ag c og ds)(hD:w.heap[D]? =some (.cells cs t))(ht:t≠161):og≠some D:=fun e=>by
 rcases h.cases with ⟨-,-,ho,-⟩ | ⟨g,-,ho,h⟩
 · rw [ho] at e;cases e
 · rw [ho] at e
   injection e with e
   obtain⟨-,⟨h2,-⟩ | ⟨q,cap,cur,h2,-,h3,-⟩⟩:=h.1
   · cases h2
   · injection h2 with h2;injection h2 with h2;injection h2 with h2
     rw [<-h2,e,hD] at h3
     injection h3 with h3;injection h3 with _ h3
     exact ht h3
theorem ZfI{base:Nat}{w w':World}{ag:Option Addr}{c:Nat}{og:Option Nat}{ds:List Dm}(h:DRV base w ag c og ds)(eg:∀b,og=some b->w'.heap[b]? =w.heap[b]?)(ep:∀d∈ds,w'.heap[d.2.1]? =w.heap[d.2.1]?):DRV base w' ag c og ds:=
 ⟨Zci h.row (fun g e=>eg g (h.own.symm.trans e)),h.own,fun d hd=>⟨Zci (h.rows d hd).1 (fun q e=>by
  have e':some d.2.1=some q:=e
  injection e' with e'
  rw [<-e'];exact ep d hd),(h.rows d hd).2⟩,h.rise⟩
theorem ZfJ{base:Nat}{w w':World}{ag:Option Addr}{c:Nat}{og:Option Nat}{ds:List Dm}(h:DRV base w ag c og ds)(e:∀b,base<=b->b<w.heap.size->w'.heap[b]? =w.heap[b]?):DRV base w' ag c og ds:=
 ZfI h (fun b hb=>e b (h.ge b hb) (h.lt b hb)) (fun d hd=>e _ (h.rows d hd).1.lt2.1 (h.rows d hd).1.lt2.2)
theorem Zn2{base D:Nat}{w w':World}{ag:Option Addr}{c:Nat}{og:Option Nat}{ds:List Dm}(h:DRV base w ag c og ds)(e:∀b,base<=b->b<w.heap.size->b≠D->w'.heap[b]? =w.heap[b]?)(hg:og≠some D)(hp:∀x∈ds,x.2.1≠D):DRV base w' ag c og ds:=
 ZfI h (fun b hb=>e b (h.ge b hb) (h.lt b hb) (fun q=>hg (by rw [hb,q]))) (fun d hd=>e _ (h.rows d hd).1.lt2.1 (h.rows d hd).1.lt2.2 (hp d hd))
theorem DRV.snoc{base:Nat}{w w':World}{ag:Option Addr}{c gg cc b cp:Nat}{og:Option Nat}{id:Int}{xs:List Int}{ds:List Dm}(h:DRV base w ag c og ds)
 (hrow:Row base w b cp xs) (hbg:og≠some b) (hlast:∀d∈ds,d.2.1<b)
 (hown:w'.ownsRow base 161 2 (.slice (some ⟨gg,0,none⟩) (ds.length+1) cc) (ds.length+1) (ZG ds++[.int .i64 id,.slice (some ⟨b,0,none⟩) xs.length cp]))
 (hg:w.grownBy w' og) (hgg:og=some gg\/gg=w.heap.size):Z2 base w' gg cc (ds++[(id,b,cp,xs)]):=by
 have f:∀d:Dm,Row base w d.2.1 d.2.2.1 d.2.2.2->og≠some d.2.1->Row base w' d.2.1 d.2.2.1 d.2.2.2/\d.2.1≠gg:=fun d a g=>
  ⟨World.ownsRow.kept a hg (Or.inr (by intro e;exact g e.symm)),by
   have:=a.lt2
   rcases hgg with e | e
   · intro q;exact g (by rw [e,q])
   · rw [e];omega⟩
 refine⟨?_,fun d a=>?_,?_⟩
 · rw [Za2,List.length_append];exact hown
 · rcases List.mem_append.1 a with a | a
   · exact f d (h.rows d a).1 (h.rows d a).2
   · rw [List.mem_singleton.1 a];exact f (id,b,cp,xs) hrow hbg
 · rw [List.pairwise_append]
   exact⟨h.rise,by simp,fun d a e i=>by rw [List.mem_singleton.1 i];exact hlast d a⟩
theorem Zie{base base2:Nat}{w w':World}{ag:Option Addr}{c gg cc:Nat}{og:Option Nat}{ds es:List Dm}(h:DRV base w ag c og ds)(hs:es.Sublist ds)(hown:w'.ownsRow base2 161 2 (.slice (some ⟨gg,0,none⟩) es.length cc) es.length (ZG es))(hb:base<=base2)(hg:w.heap.size<=gg)(e:∀d∈ds,w'.heap[d.2.1]? =w.heap[d.2.1]?):Z2 base w' gg cc es:=
 ⟨⟨hown.1,hown.2.imp id fun ⟨g,cap,cur,h1,h2,h3⟩=>⟨g,cap,cur,h1,Nat.le_trans hb h2,h3⟩⟩,fun d hd=>⟨Zci (h.rows d (hs.subset hd)).1 (fun q e'=>by
  have e'':some d.2.1=some q:=e'
  injection e'' with e''
  rw [<-e''];exact e d (hs.subset hd)),by have:=(h.rows d (hs.subset hd)).1.lt2;omega⟩,h.rise.sublist hs⟩
def Zcj(lo hi:Nat)(w:World)(a:Option Addr)(ts:List Wb):Prop:=∀w':World,w.heap.size<=w'.heap.size->(∀b,lo<=b->b<hi->w'.heap[b]? =w.heap[b]?)->Zp true w' a ts
theorem Zcj.step{lo hi:Nat}{w w2:World}{a:Option Addr}{ts:List Wb}(h:Zcj lo hi w a ts)(hs:w.heap.size<=w2.heap.size)(e:∀b,lo<=b->b<hi->w2.heap[b]? =w.heap[b]?):Zcj lo hi w2 a ts:=
 fun w' h1 h2=>h w' (Nat.le_trans hs h1) (fun b x y=>(h2 b x y).trans (e b x y))
theorem Zcj.low{lo lo' hi:Nat}{w:World}{a:Option Addr}{ts:List Wb}(h:Zcj lo hi w a ts)(hl:lo'<=lo):Zcj lo' hi w a ts:=
 fun w' h1 h2=>h w' h1 (fun b x y=>h2 b (by omega) y)
theorem ZbY.int{lo:Nat}{w:World}{a:Option Addr}{ts:List Wb}(h:ZbY lo w a ts):Zcj lo w.heap.size w a ts:=h
theorem Zpl(base D c:Nat)(ag:Option Addr)(og:Option Nat)(ds:List Dm)(vq:Value)(wd d nx:Int)(va0:Option Addr)(vc0:Nat)(ts:List Wb)(ap:Option Addr)(cp:Nat)(p:List Int)(w:World)(hD:w.heap[D]? =some (.cells #[.int .i64 wd,.slice ag ds.length c,.int .i64 d,.slice va0 ts.length vc0,.int .i64 nx,vq] 44))(hr:DRV base w ag c og ds)(hb0:base<=w.heap.size)(hv:Zp true w va0 ts)(hp:Zy w ap p)(hpl:p.length<=1048576)(hok:Zap d ts=true)(hsm:Z1 ts)(hn:ds.length<=60)(hDp:∀x∈ds,x.2.1≠D)(hnb:0<=nx/\nx<=1000000):
 Calls Tryz.prog 79 #[.pointer (some ⟨D,0,none⟩),.slice ap p.length cp] w fun e w'=>(kpB wd nx d p ts=false->e=.returned (.int .i64 (-1))/\Below w.heap.size w w')/\(kpB wd nx d p ts=true->e=.returned (.int .i64 nx)/\∃g c2 va vc,w'.heap[D]? =some (.cells #[.int .i64 wd,.slice (some ⟨g,0,none⟩) (ds.length+1) c2,.int .i64 (ZfC (nx,p) ts d),.slice va (Zb2 (nx,p) ts d).length vc,.int .i64 (nx+1),vq] 44)/\(∃gp' cq',Z2 base w' g c2 (ds++[(nx,gp',cq',p)])/\(∀x∈ds++[(nx,gp',cq',p)],x.2.1≠D))/\(∃hj,w.heap.size<=hj/\hj<=w'.heap.size/\Zcj w.heap.size hj w' va (Zb2 (nx,p) ts d)/\(og=some g\/hj<=g))/\Cgd (fun b=>b=D\/og=some b) w w'):=by
 obtain⟨i0,aW,aQ,be,aY⟩:=info_parts Tryz.info2
 obtain⟨j0,cv,c6,cg,cm⟩:=info_parts Tryz.info161
 obtain⟨e0,e1,e2,e3,e4,-,ef,bB⟩:=Zh hD
 have B:=Za (sOk ap cp p w hp hpl)
 rcases hkp:okB p with _ | _
 · have W:Hid (kpB wd nx d p ts=false):=by show _=_;unfold kpB;rw [hkp];rfl
   rw [hkp] at B
   go_enter Tryz.func79,Tryz.ntmps79
   go_wp2_with fail
   refine B.out.mono ?_
   rintro e W1 ⟨rfl,O⟩
   subst O
   go_wp2_with fail
   go_ret
   exact⟨fun _=>⟨rfl,Below.refl _ _⟩,fun h=>by rw [W.out] at h;cases h⟩
 rw [hkp] at B
 by_cases a5:¬(p.length:Int)=wd
 · have W:Hid (kpB wd nx d p ts=false):=by show _=_;unfold kpB;rw [hkp,decide_eq_false a5];rfl
   have cC:((p.length:Int) !=wd)=true:=by simp;exact a5
   go_enter Tryz.func79,Tryz.ntmps79
   go_wp2_with fail
   refine B.out.mono ?_
   rintro e W1 ⟨rfl,O⟩
   subst O
   go_wp2_with fail
   go_ret
   exact⟨fun _=>⟨rfl,Below.refl _ _⟩,fun h=>by rw [W.out] at h;cases h⟩
 replace a5:(p.length:Int)=wd:=Classical.not_not.1 a5
 have cS:((p.length:Int) !=wd)=false:=by simp;exact a5
 by_cases hnx:nx=1000000
 · have W:Hid (kpB wd nx d p ts=false):=by show _=_;unfold kpB;rw [decide_eq_true hnx];simp
   have cC:(nx ==1000000)=true:=by simp;exact hnx
   clear hnx
   go_enter Tryz.func79,Tryz.ntmps79
   go_wp2_with fail
   refine B.out.mono ?_
   rintro e W1 ⟨rfl,O⟩
   subst O
   go_wp2_with fail
   go_ret
   exact⟨fun _=>⟨rfl,Below.refl _ _⟩,fun h=>by rw [W.out] at h;cases h⟩
 have d3:(nx ==1000000)=false:=by simp;exact hnx
 have bu:Hid (kpB wd nx d p ts=ZcX (nx,p) ts d):=by show _=_;unfold kpB;rw [hkp,decide_eq_true a5,decide_eq_false hnx];rfl
 have d7:=ZaP hkp
 have aV:=Za hp
 have HV:=Za hv
 have HR:=Za hr
 have HD:=Za hD
 have bv:=Za hDp
 have bY:=Za hnb
 have bD:=Za (And.intro hok hsm)
 have d6:=hb0
 have aR:∀b,og=some b->b<w.heap.size:=hr.lt
 have aF:og≠some D:=hr.noD hD (by decide)
 obtain⟨k,ch⟩:∃k,k=w:=⟨w,rfl⟩
 clear hp hv hr hok hsm hDp hkp a5 hnx hnb hb0
 go_enter Tryz.func79,Tryz.ntmps79
 go_wp2_with fail
 refine B.out.mono ?_
 rintro e W1 ⟨rfl,O⟩
 subst O
 subst ch
 clear B
 go_upto_region 3 with fail
 go_cut [5] from 27 to 34 (fun v wx=>∃i l o,v=.pointer (some ⟨i,0,none⟩)/\Two wx i (.int .i64 nx) (.slice (some ⟨l,0,none⟩) p.length o) 161/\ZQ k.heap.size wx l o p/\k.heap.size<=i/\i≠l/\Below k.heap.size k wx)
 case first=>
  have bG:=Za ((Below.refl k.heap.size k).drew)
  have cy:Hid (∀y,Below k.heap.size k y->y.cell? ⟨D,4,none⟩=some (.int .i64 nx)):=fun y L'=>(L'.cell (p:=⟨D,4,none⟩) bB).trans e4
  refine Zl (S:=fun y=>Below k.heap.size k y) (fuel:=5) [0,1,2,3,5] (by kernel_rfl) (by kernel_rfl) (by kernel_rfl) (by kernel_rfl) bG.out (fun _=>?_)
  iterate 5 (refine⟨_,rfl,?_⟩;apply Exists.intro;refine⟨Or.inl ⟨by rfl,fun w' u=>?_⟩,?_⟩;(focus (have e1:=cy.out w' u;go_simp<;>with_reducible rfl));simp only [Act.put,tkgZ])
  obtain⟨m,Z⟩:∃w0,k.drew=w0:=⟨_,rfl⟩
  have af:Below k.heap.size k m:=by rw [<-Z];exact bG.out
  have ae:k.heap.size<=m.heap.size:=af.size
  rw [Z]
  clear Z
  refine ZA 4 8 (by kernel_rfl) rfl rfl (fun K f=>?_) (fun K f=>?_)
  · go_simp
    obtain⟨u1,M⟩:∃w0,m.alloc (.cells #[] 2)=w0:=⟨_,rfl⟩
    have a3:=balZ M
    obtain⟨ge,ah⟩:∃q,m.heap.size=q:=⟨_,rfl⟩
    have hE:ZQ k.heap.size u1 ge 0 []:=by rw [<-M,<-ah];exact ZQ.start m _ ae
    first | rw [M] | skip
    first | rw [ah] | skip
    have T:=Nat.le_trans ae a3.size
    have cu:=a3.size
    have bQ:ge<u1.heap.size:=hE.lt.2
    have Y:=Zb af a3
    refine f.out _ _ Y (fun _=>?_)
    clear f K M
    refine ZA 6 8 (by kernel_rfl) rfl rfl (fun K f=>?_) (fun K f=>?_)
    · skip
      refine Zj u1 rfl (.tmp 31) (.tmp 32) 31 rfl k.heap.size 2 i0 _ 1 8 Tryz.underlying31 aW aQ be aY rfl (by omega) ge 0 0 [] rfl hE ap p.length cp (p.map (Value.int .i64)) rfl (Z9 (Zy.next aV.out Y)) (by unfold maxLen;omega) (by omega) T u1.heap.size rfl ?_
      intro l o u2 s a V br
      have hp:ZQ k.heap.size u2 l o p:=ZQ.of s (by omega) (by simp)
      have b8:=a.size
      have I:=Nat.le_trans T b8
      have bw:=hE.lt.1
      have z:Below k.heap.size k u2:=Y.grown a T (fun q e=>by injection e with e;omega)
      rw [Nat.zero_add]
      refine f.out _ _ z (fun _=>?_)
      clear f K s a
      refine Zz 2 [7] (by kernel_rfl) (by kernel_rfl) (by kernel_rfl) z ?_
      iterate 1 (refine⟨_,rfl,?_⟩;apply Exists.intro;refine⟨Or.inl ⟨by rfl,fun w' u=>?_⟩,?_⟩;(focus (go_simp<;>with_reducible rfl));simp only [Act.put,tkgZ])
      refine Zc 8 (by kernel_rfl) rfl (fun K f=>?_)
      · go_simp
        obtain⟨u3,aC⟩:∃w0,u2.alloc (.cells #[.int .i64 0,.slice none 0 0] 161)=w0:=⟨_,rfl⟩
        have aw:=balZ aC
        obtain⟨i,Q⟩:∃q,u2.heap.size=q:=⟨_,rfl⟩
        have r:Two u3 i (.int .i64 0) (.slice none 0 0) 161:=by rw [<-aC,<-Q];exact Two.new u2 _ _ _
        first | rw [aC] | skip
        first | rw [Q] | skip
        have bn:=Nat.le_trans I aw.size
        have aG:=aw.size
        have bo:i<u3.heap.size:=r.lt
        have cY:=hp.lt.2
        replace hp:=hp.below aw
        have E:=Zb z aw
        refine f.out _ _ E (fun _=>?_)
        clear f K aC
        have x0:=r.c0
        have x1:=r.c1
        have a0:=r.frozen 0
        have U:=r.frozen 1
        refine Zc 9 (by kernel_rfl) rfl (fun K f=>?_)
        go_simp
        obtain⟨t,j⟩:∃t,(u3.setCell ⟨i,0,none⟩ (.int .i64 nx)).setCell ⟨i,1,none⟩ (.slice (some ⟨l,0,none⟩) p.length o)=t:=⟨_,rfl⟩
        have far:∀b,b≠i->t.heap[b]? =u3.heap[b]? :=fun b C=>by rw [<-j];exact (Below.heap_setCell _ ⟨i,1,none⟩ _ b (fun e=>C e)).trans (Below.heap_setCell _ ⟨i,0,none⟩ _ b (fun e=>C e))
        have bz:u3.heap.size=t.heap.size:=by rw [<-j,Ze,Ze]
        have aa:ZQ k.heap.size t l o p:=Zcp hp (far l (by omega))
        have ak:Two t i (.int .i64 nx) (.slice (some ⟨l,0,none⟩) p.length o) 161:=by rw [<-j];exact (r.set0 _).set1 _
        have BZ:Below k.heap.size k t:=by rw [<-j];exact (E.setCell (by show k.heap.size<=i;omega) _).setCell (by show k.heap.size<=i;omega) _
        first | rw [j] | skip
        refine f.out _ _ BZ (fun _=>?_)
        clear f K j x0 x1 a0 U
        refine wpAnyH_done (by kernel_rfl) ?_ _
        refine NoPanic.normal ?_
        try simp only [Exit.then]
        go_wp2_with fail
        go_meet
        exact⟨i,l,o,rfl,ak,aa,by omega,by omega,BZ⟩
    · go_simp
      obtain⟨u2,J⟩:∃w0,u1.alloc (.cells #[.int .i64 0,.slice none 0 0] 161)=w0:=⟨_,rfl⟩
      have H:=balZ J
      obtain⟨i,Q⟩:∃q,u1.heap.size=q:=⟨_,rfl⟩
      have r:Two u2 i (.int .i64 0) (.slice none 0 0) 161:=by rw [<-J,<-Q];exact Two.new u1 _ _ _
      first | rw [J] | skip
      first | rw [Q] | skip
      have I:=Nat.le_trans T H.size
      have b8:=H.size
      have bo:i<u2.heap.size:=r.lt
      replace hE:=hE.below H
      have z:=Zb Y H
      refine f.out _ _ z (fun _=>?_)
      clear f K J
      refine Zc 6 (by kernel_rfl) rfl (fun K f=>?_)
      · skip
        refine Zj u2 rfl (.tmp 31) (.tmp 32) 31 rfl k.heap.size 2 i0 _ 1 8 Tryz.underlying31 aW aQ be aY rfl (by omega) ge 0 0 [] rfl hE ap p.length cp (p.map (Value.int .i64)) rfl (Z9 (Zy.next aV.out z)) (by unfold maxLen;omega) (by omega) I u2.heap.size rfl ?_
        intro l o u3 s a V br
        have hp:ZQ k.heap.size u3 l o p:=ZQ.of s (by omega) (by simp)
        have aG:=a.size
        have bn:=Nat.le_trans I aG
        have bw:=hE.lt.1
        have E:Below k.heap.size k u3:=z.grown a I (fun q e=>by injection e with e;omega)
        replace r:Two u3 i (.int .i64 0) (.slice none 0 0) 161:=(a.block i r.lt (fun e=>by injection e with e;omega)).trans r
        have bF:=r.lt
        rw [Nat.zero_add]
        refine f.out _ _ E (fun _=>?_)
        clear f K s a
        refine Zz 1 [7] (by kernel_rfl) (by kernel_rfl) (by kernel_rfl) E ?_
        iterate 1 (refine⟨_,rfl,?_⟩;apply Exists.intro;refine⟨Or.inl ⟨by rfl,fun w' u=>?_⟩,?_⟩;(focus (go_simp<;>with_reducible rfl));simp only [Act.put,tkgZ])
        have x0:=r.c0
        have x1:=r.c1
        have a0:=r.frozen 0
        have U:=r.frozen 1
        refine Zc 9 (by kernel_rfl) rfl (fun K f=>?_)
        go_simp
        obtain⟨t,j⟩:∃t,(u3.setCell ⟨i,0,none⟩ (.int .i64 nx)).setCell ⟨i,1,none⟩ (.slice (some ⟨l,0,none⟩) p.length o)=t:=⟨_,rfl⟩
        have far:∀b,b≠i->t.heap[b]? =u3.heap[b]? :=fun b C=>by rw [<-j];exact (Below.heap_setCell _ ⟨i,1,none⟩ _ b (fun e=>C e)).trans (Below.heap_setCell _ ⟨i,0,none⟩ _ b (fun e=>C e))
        have bz:u3.heap.size=t.heap.size:=by rw [<-j,Ze,Ze]
        have aa:ZQ k.heap.size t l o p:=Zcp hp (far l (by omega))
        have ak:Two t i (.int .i64 nx) (.slice (some ⟨l,0,none⟩) p.length o) 161:=by rw [<-j];exact (r.set0 _).set1 _
        have BZ:Below k.heap.size k t:=by rw [<-j];exact (E.setCell (by show k.heap.size<=i;omega) _).setCell (by show k.heap.size<=i;omega) _
        first | rw [j] | skip
        refine f.out _ _ BZ (fun _=>?_)
        clear f K j x0 x1 a0 U
        refine wpAnyH_done (by kernel_rfl) ?_ _
        refine NoPanic.normal ?_
        try simp only [Exit.then]
        go_wp2_with fail
        go_meet
        exact⟨i,l,o,rfl,ak,aa,by omega,by omega,BZ⟩
  · go_simp
    obtain⟨u1,M⟩:∃w0,m.alloc (.cells #[.int .i64 0,.slice none 0 0] 161)=w0:=⟨_,rfl⟩
    have a3:=balZ M
    obtain⟨i,Q⟩:∃q,m.heap.size=q:=⟨_,rfl⟩
    have r:Two u1 i (.int .i64 0) (.slice none 0 0) 161:=by rw [<-M,<-Q];exact Two.new m _ _ _
    first | rw [M] | skip
    first | rw [Q] | skip
    have T:=Nat.le_trans ae a3.size
    have cu:=a3.size
    have bo:i<u1.heap.size:=r.lt
    have Y:=Zb af a3
    refine f.out _ _ Y (fun _=>?_)
    clear f K M
    refine Zc 4 (by kernel_rfl) rfl (fun K f=>?_)
    · go_simp
      obtain⟨u2,J⟩:∃w0,u1.alloc (.cells #[] 2)=w0:=⟨_,rfl⟩
      have H:=balZ J
      obtain⟨ge,ah⟩:∃q,u1.heap.size=q:=⟨_,rfl⟩
      have hE:ZQ k.heap.size u2 ge 0 []:=by rw [<-J,<-ah];exact ZQ.start u1 _ T
      first | rw [J] | skip
      first | rw [ah] | skip
      have I:=Nat.le_trans T H.size
      have b8:=H.size
      have bQ:ge<u2.heap.size:=hE.lt.2
      replace r:=r.below H
      have z:=Zb Y H
      refine f.out _ _ z (fun _=>?_)
      clear f K J
      refine Zc 6 (by kernel_rfl) rfl (fun K f=>?_)
      · skip
        refine Zj u2 rfl (.tmp 31) (.tmp 32) 31 rfl k.heap.size 2 i0 _ 1 8 Tryz.underlying31 aW aQ be aY rfl (by omega) ge 0 0 [] rfl hE ap p.length cp (p.map (Value.int .i64)) rfl (Z9 (Zy.next aV.out z)) (by unfold maxLen;omega) (by omega) I u2.heap.size rfl ?_
        intro l o u3 s a V br
        have hp:ZQ k.heap.size u3 l o p:=ZQ.of s (by omega) (by simp)
        have aG:=a.size
        have bn:=Nat.le_trans I aG
        have bw:=hE.lt.1
        have E:Below k.heap.size k u3:=z.grown a I (fun q e=>by injection e with e;omega)
        replace r:Two u3 i (.int .i64 0) (.slice none 0 0) 161:=(a.block i r.lt (fun e=>by injection e with e;omega)).trans r
        have bF:=r.lt
        rw [Nat.zero_add]
        refine f.out _ _ E (fun _=>?_)
        clear f K s a
        refine Zz 1 [7] (by kernel_rfl) (by kernel_rfl) (by kernel_rfl) E ?_
        iterate 1 (refine⟨_,rfl,?_⟩;apply Exists.intro;refine⟨Or.inl ⟨by rfl,fun w' u=>?_⟩,?_⟩;(focus (go_simp<;>with_reducible rfl));simp only [Act.put,tkgZ])
        have x0:=r.c0
        have x1:=r.c1
        have a0:=r.frozen 0
        have U:=r.frozen 1
        refine Zc 9 (by kernel_rfl) rfl (fun K f=>?_)
        go_simp
        obtain⟨t,j⟩:∃t,(u3.setCell ⟨i,0,none⟩ (.int .i64 nx)).setCell ⟨i,1,none⟩ (.slice (some ⟨l,0,none⟩) p.length o)=t:=⟨_,rfl⟩
        have far:∀b,b≠i->t.heap[b]? =u3.heap[b]? :=fun b C=>by rw [<-j];exact (Below.heap_setCell _ ⟨i,1,none⟩ _ b (fun e=>C e)).trans (Below.heap_setCell _ ⟨i,0,none⟩ _ b (fun e=>C e))
        have bz:u3.heap.size=t.heap.size:=by rw [<-j,Ze,Ze]
        have aa:ZQ k.heap.size t l o p:=Zcp hp (far l (by omega))
        have ak:Two t i (.int .i64 nx) (.slice (some ⟨l,0,none⟩) p.length o) 161:=by rw [<-j];exact (r.set0 _).set1 _
        have BZ:Below k.heap.size k t:=by rw [<-j];exact (E.setCell (by show k.heap.size<=i;omega) _).setCell (by show k.heap.size<=i;omega) _
        first | rw [j] | skip
        refine f.out _ _ BZ (fun _=>?_)
        clear f K j x0 x1 a0 U
        refine wpAnyH_done (by kernel_rfl) ?_ _
        refine NoPanic.normal ?_
        try simp only [Exit.then]
        go_wp2_with fail
        go_meet
        exact⟨i,l,o,rfl,ak,aa,by omega,by omega,BZ⟩
 case rest=>
  obtain⟨i,l,o,rfl,r,au,cX,db,L1⟩:=hcut
  generalize hwc:wc=wo at *
  clear hwc wc
  have cM:=au.lt
  have b5:wo.heap[D]? =some (.cells #[.int .i64 wd,.slice ag ds.length c,.int .i64 d,.slice va0 ts.length vc0,.int .i64 nx,vq] 44):=(L1.block D bB).trans hD
  have co:=Za b5
  have c8:=Za r
  have cF:=Za au
  have ar:=Za L1
  have bF:=r.lt
  have O:=L1.size
  have aZ:=Za ((Below.refl wo.heap.size wo).drew)
  have bC:Hid (∀y,Below wo.heap.size wo y->y.cell? ⟨D,2,none⟩=some (.int .i64 d)/\y.cell? ⟨D,3,none⟩=some (.slice va0 ts.length vc0)/\y.cell? ⟨i,0,none⟩=some (.int .i64 nx)/\y.cell? ⟨i,1,none⟩=some (.slice (some ⟨l,0,none⟩) p.length o)):=fun y L'=>by
   obtain⟨f0,f1,f2,f3,f4,-,-,-⟩:=Zh ((L'.block D (by omega)).trans b5)
   exact⟨f2,f3,(r.below L').c0,(r.below L').c1⟩
  obtain⟨LD,aT⟩:∃L,ZfC (nx,p) ts d=L:=⟨_,rfl⟩
  obtain⟨F,b7⟩:∃L,Zb2 (nx,p) ts d=L:=⟨_,rfl⟩
  obtain⟨rr,bf⟩:∃b,ZcX (nx,p) ts d=b:=⟨_,rfl⟩
  have bg:Hid (∀y,Below wo.heap.size wo y->Calls Tryz.prog 123 #[.agg #[.int .i64 d,.slice va0 ts.length vc0],.agg #[.int .i64 nx,.slice (some ⟨l,0,none⟩) p.length o]] y fun e w'=>∃va vc,e=.returned (.tuple #[.agg #[.int .i64 LD,.slice va F.length vc],.bool rr])/\ZbY y.heap.size w' va F/\Below y.heap.size y w'):=fun y L'=>by
   refine (Zmx va0 (some ⟨l,0,none⟩) vc0 o d ts (nx,p) y (HV.out.next (ar.out.trans (Below.mono L' ar.out.size))) (au.below L').view hpl bD.out.1 bD.out.2).mono ?_
   rintro e w' ⟨vt,rfl,⟨S,vm,vl,ht⟩,L2⟩
   obtain⟨a',c',rfl,-⟩:=ht.form
   rw [aT,bf]
   rw [b7] at ht ⊢
   exact⟨a',c',rfl,ht.kept,L2⟩
  have am:=Za (And.intro aT (And.intro b7 bf))
  clear r au L1 b5 e0 e1 e2 e3 e4 ef aT b7 bf
  go_upto_region 4 with fail
  go_cut [6,7] from 27 to 69 (fun v b wx=>∃X va vc,v=.pointer (some ⟨X,0,none⟩)/\b=.bool rr/\Two wx X (.int .i64 LD) (.slice va F.length vc) 39/\ZbY wo.heap.size wx va F/\wo.heap.size<=X/\Below wo.heap.size wo wx)
  case first=>
   refine Zl (S:=fun y=>Below wo.heap.size wo y) (fuel:=7) [0,1,2,3,4] (by kernel_rfl) (by kernel_rfl) (by kernel_rfl) (by kernel_rfl) aZ.out (fun _=>?_)
   iterate 5 (refine⟨_,rfl,?_⟩;apply Exists.intro;refine⟨Or.inl ⟨by rfl,fun w' u=>?_⟩,?_⟩;(focus (obtain⟨e1,e2,e3,e4⟩:=bC.out w' u;go_simp<;>with_reducible rfl));simp only [Act.put,tkgZ])
   obtain⟨m,Z⟩:∃w0,wo.drew=w0:=⟨_,rfl⟩
   have B0:Below wo.heap.size wo m:=by rw [<-Z];exact aZ.out
   have s0:wo.heap.size<=m.heap.size:=B0.size
   rw [Z]
   clear Z
   refine ZA 5 9 (by kernel_rfl) rfl rfl (fun K f=>?_) (fun K f=>?_)
   · go_simp
     refine (bg.out m B0).mono ?_
     rintro e w2 ⟨va,vc,rfl,ad,L2⟩
     have LA:=Zb B0 L2
     refine f.out _ _ LA (fun b1=>?_)
     clear f K
     refine Zz 3 [6,7,8] (by kernel_rfl) (by kernel_rfl) (by kernel_rfl) b1 ?_
     iterate 3 (refine⟨_,rfl,?_⟩;apply Exists.intro;refine⟨Or.inl ⟨by rfl,fun w' u=>?_⟩,?_⟩;(focus (go_simp<;>with_reducible rfl));simp only [Act.put,tkgZ])
     refine Zc 9 (by kernel_rfl) rfl (fun K f=>?_)
     go_simp
     refine f.out _ _ (LA.alloc LA.size _) (fun _=>?_)
     clear f K
     refine Zc 10 (by kernel_rfl) rfl (fun K f=>?_)
     go_simp
     obtain⟨t,j⟩:∃t,w2.alloc (.cells #[.int .i64 LD,.slice va F.length vc] 39)=t:=⟨_,rfl⟩
     have LZ:=balZ j
     have aj:=Za (Zb LA LZ)
     have aX:Hid (Two t w2.heap.size (.int .i64 LD) (.slice va F.length vc) 39):=by show Two _ _ _ _ _;rw [<-j];exact Two.new w2 _ _ _
     have b6:Hid (ZbY wo.heap.size t va F):=(Zgs ad s0).step LZ.size (fun b _ h2=>LZ.block b h2)
     have cG:Hid (wo.heap.size<=w2.heap.size):=LA.size
     rw [j]
     refine f.out _ _ aj.out (fun A=>?_)
     clear f K j ad LA L2 LZ
     refine ZB [11] rfl (by kernel_rfl) (by kernel_rfl) (by kernel_rfl) A ?_
     iterate 1 (refine⟨_,rfl,?_⟩;apply Exists.intro;refine⟨Or.inl ⟨by rfl,fun w' u=>?_⟩,?_⟩;(focus (go_simp<;>with_reducible rfl));simp only [Act.put,tkgZ])
     refine NoPanic.normal (NoPanic.normal ?_)
     go_wp2_with fail
     go_meet
     exact⟨_,va,vc,rfl,rfl,aX.out,b6.out,cG.out,aj.out⟩
   · go_simp
     obtain⟨Wx,ay⟩:∃y,m.alloc (.cells #[.int .i64 0,.slice none 0 0] 39)=y:=⟨_,rfl⟩
     obtain⟨Xb,bH⟩:∃q,m.heap.size=q:=⟨_,rfl⟩
     have LX:Below wo.heap.size wo Wx:=by rw [<-ay];exact B0.alloc s0 _
     have bs:Two Wx Xb (.int .i64 0) (.slice none 0 0) 39:=by rw [<-ay,<-bH];exact Two.new m _ _ _
     have aE:wo.heap.size<=Xb:=by omega
     have cc:=bs.lt
     first | rw [ay] | skip
     first | rw [bH] | skip
     refine f.out _ _ LX (fun _=>?_)
     clear f K ay
     refine Zc 5 (by kernel_rfl) rfl (fun K f=>?_)
     go_simp
     refine (bg.out Wx LX).mono ?_
     rintro e w2 ⟨va,vc,rfl,ad,L2⟩
     have LA:=Zb LX L2
     have a9:=bs.below L2
     refine f.out _ _ LA (fun b1=>?_)
     clear f K
     refine Zz 2 [6,7,8] (by kernel_rfl) (by kernel_rfl) (by kernel_rfl) b1 ?_
     iterate 3 (refine⟨_,rfl,?_⟩;apply Exists.intro;refine⟨Or.inl ⟨by rfl,fun w' u=>?_⟩,?_⟩;(focus (go_simp<;>with_reducible rfl));simp only [Act.put,tkgZ])
     have x0:=a9.c0
     have x1:=a9.c1
     have a0:=a9.frozen 0
     have U:=a9.frozen 1
     refine Zc 10 (by kernel_rfl) rfl (fun K f=>?_)
     go_simp
     have aj:=Za ((LA.setCell (by show wo.heap.size<=Xb;exact aE) (.int .i64 LD):Below wo.heap.size wo (w2.setCell ⟨Xb,0,none⟩ (.int .i64 LD))).setCell (by show wo.heap.size<=Xb;exact aE) (.slice va F.length vc):Below wo.heap.size wo ((w2.setCell ⟨Xb,0,none⟩ (.int .i64 LD)).setCell ⟨Xb,1,none⟩ (.slice va F.length vc)))
     have aX:=Za ((a9.set0 (.int .i64 LD)).set1 (.slice va F.length vc))
     have b6:Hid (ZbY wo.heap.size ((w2.setCell ⟨Xb,0,none⟩ (.int .i64 LD)).setCell ⟨Xb,1,none⟩ (.slice va F.length vc)) va F):=ZkS ad cc (by omega) aE (by rw [Ze,Ze];exact Nat.le_refl _) (fun b C=>(Below.heap_setCell _ ⟨Xb,1,none⟩ _ b C).trans (Below.heap_setCell _ ⟨Xb,0,none⟩ _ b C))
     clear ad
     generalize (w2.setCell ⟨Xb,0,none⟩ (.int .i64 LD)).setCell ⟨Xb,1,none⟩ (.slice va F.length vc)=t at *
     refine f.out _ _ aj.out (fun A=>?_)
     clear f K x0 x1 a0 U LA L2 a9
     refine ZB [11] rfl (by kernel_rfl) (by kernel_rfl) (by kernel_rfl) A ?_
     iterate 1 (refine⟨_,rfl,?_⟩;apply Exists.intro;refine⟨Or.inl ⟨by rfl,fun w' u=>?_⟩,?_⟩;(focus (go_simp<;>with_reducible rfl));simp only [Act.put,tkgZ])
     refine NoPanic.normal (NoPanic.normal ?_)
     go_wp2_with fail
     go_meet
     exact⟨Xb,va,vc,rfl,rfl,aX.out,b6.out,aE,aj.out⟩
  case rest=>
   obtain⟨X,va,vc,rfl,rfl,hX,bc,dd,L5⟩:=hcut
   generalize hwc:wc=w5 at *
   clear hwc wc aZ bC bg
   have aB:w5.heap[D]? =some (.cells #[.int .i64 wd,.slice ag ds.length c,.int .i64 d,.slice va0 ts.length vc0,.int .i64 nx,vq] 44):=(L5.block D (by omega)).trans co.out
   have a4:Hid (Below k.heap.size k w5):=ar.out.trans (Below.mono L5 ar.out.size)
   rcases hrb:rr with _ | _
   · subst hrb
     have W:Hid (kpB wd nx d p ts=false):=by show _=_;rw [bu.out];exact am.out.2.2
     clear hX bc L5 aB
     go_wp2_with fail
     go_ret
     exact⟨fun _=>⟨rfl,a4.out⟩,fun h=>by rw [W.out] at h;cases h⟩
   · subst hrb
     have bl:Hid (kpB wd nx d p ts=true):=by show _=_;rw [bu.out];exact am.out.2.2
     obtain⟨f0,f1,f2,f3,f4,-,ff,cK⟩:=Zh aB
     have ca:=ff 2
     have cw:=ff 3
     have x0:=hX.c0
     have x1:=hX.c1
     obtain⟨n,R⟩:∃n,(w5.setCell ⟨D,2,none⟩ (.int .i64 LD)).setCell ⟨D,3,none⟩ (.slice va F.length vc)=n:=⟨_,rfl⟩
     have G:∀b,b≠D->n.heap[b]? =w5.heap[b]? :=fun b C=>by rw [<-R];exact (Below.heap_setCell _ ⟨D,3,none⟩ _ b (fun e=>C e)).trans (Below.heap_setCell _ ⟨D,2,none⟩ _ b (fun e=>C e))
     have da:w5.heap.size=n.heap.size:=by rw [<-R,Ze,Ze]
     have b3:n.heap[D]? =some (.cells #[.int .i64 wd,.slice ag ds.length c,.int .i64 LD,.slice va F.length vc,.int .i64 nx,vq] 44):=by
      rw [<-R]
      exact heap_setCell_same _ D 3 _ _ _ (heap_setCell_same w5 D 2 _ _ _ aB)
     have cD:Hid (Cgd (fun b=>b=D\/og=some b) k n):=⟨by rw [<-R];exact a4.out.os,by rw [<-R];exact a4.out.tape,by rw [<-R];exact a4.out.output,by have:=a4.out.size;omega,fun b C hn=>(G b (fun e=>hn (Or.inl e))).trans (a4.out.block b C)⟩
     have bp:Hid (DRV base n ag c og ds):=Zn2 (D:=D) (ZfJ HR.out (fun b _ h2=>a4.out.block b h2)) (fun b _ _ h3=>G b h3) aF (fun x hx e=>bv.out x hx e)
     have aI:=cF.out.below L5
     have cE:Hid (ZQ base n l o p):=Zcp (aI.mono (by omega)) (G l (by omega))
     have bI:=c8.out.below L5
     have b9:Hid (Two n i (.int .i64 nx) (.slice (some ⟨l,0,none⟩) p.length o) 161):=(G i (by omega)).trans bI
     have ci:Hid (ZbY wo.heap.size n va F):=bc.step (by omega) (fun b h1 _=>G b (by omega))
     have cW:=L5.size
     have ce:=Za b3
     clear hX bc L5 aB aI bI
     go_wp2_with fail
     first | rw [R] | skip
     clear f0 f1 f2 f3 f4 ff ca cw x0 x1 R G
     have aH:=b9.out.lt
     have cP:∀b,og=some b->b<n.heap.size:=bp.out.lt
     have aO:D<n.heap.size:=by omega
     have aP:og≠some i:=fun e=>by have:=aR i e;omega
     have BS:Hid (∀b,b<n.heap.size->og≠some b->n.drew.heap[b]? =n.heap[b]?):=fun _ _ _=>rfl
     have cx:Hid (∀X:World,(∀b,b<n.heap.size->og≠some b->X.heap[b]? =n.heap[b]?)->X.cell? ⟨D,1,none⟩=some (.slice ag ds.length c)/\X.cell? ⟨i,0,none⟩=some (.int .i64 nx)/\X.cell? ⟨i,1,none⟩=some (.slice (some ⟨l,0,none⟩) p.length o)):=fun X hX=>by
      have hd:=(hX D aO aF).trans b3
      obtain⟨_,f1,_,_,_,_,_,_⟩:=Zh hd
      have hm:Two X i (.int .i64 nx) (.slice (some ⟨l,0,none⟩) p.length o) 161:=(hX i aH aP).trans b9.out
      exact⟨f1,hm.c0,hm.c1⟩
     clear b3
     refine Zay (S:=fun X=>∀b,b<n.heap.size->og≠some b->X.heap[b]? =n.heap[b]?) (fuel:=4) [0,1,2,3,4,5] _ rfl (by kernel_rfl) (by kernel_rfl) (by kernel_rfl) (by kernel_rfl) (by kernel_rfl) (by kernel_rfl) (by kernel_rfl) BS.out (fun hS=>?_)
     simp only [List.pop_toArray,List.dropLast]
     iterate 6 (refine⟨_,rfl,?_⟩;apply Exists.intro;refine⟨Or.inl ⟨by rfl,fun w' u=>?_⟩,?_⟩;(focus (obtain⟨e1,e2,e3⟩:=cx.out w' u;go_simp<;>with_reducible rfl));simp only [Act.put,tkgZ])
     refine Zc 6 (by kernel_rfl) rfl (fun K f=>?_)
     go_simp
     obtain⟨w8,ac⟩:∃w8,(n.alloc (.cells #[.int .i64 nx,.slice (some ⟨l,0,none⟩) p.length o] 161)).drew=w8:=⟨_,rfl⟩
     have L8:Below n.heap.size n w8:=by rw [<-ac];exact ((Below.refl _ _).alloc (Nat.le_refl _) _).drew
     have bq:w8.heap[n.heap.size]? =some (.cells #[.int .i64 nx,.slice (some ⟨l,0,none⟩) p.length o] 161):=by rw [<-ac];exact heap_alloc_new n _
     have dc:w8.heap.size=n.heap.size+1:=by rw [<-ac];exact World.size_alloc n _
     have b2:Hid (DRV base w8 ag c og ds):=ZfJ bp.out (fun b _ h2=>L8.block b h2)
     have c3:=Za (cE.out.below L8)
     have cB:=Za bq
     have ck:∀b,b<n.heap.size->og≠some b->w8.heap[b]? =n.heap[b]? :=fun b h1 _=>L8.block b h1
     first | rw [ac] | skip
     refine f.out _ _ ck (fun _=>?_)
     clear f K ac bq
     refine Zc 7 (by kernel_rfl) rfl (fun K f=>?_)
     refine step_append_lies w8 rfl (.tmp 54) (.tmp 56) 36 rfl base 161 j0 _ 2 32 Tryz.underlying36 cv c6 cg cm rfl (by omega) (.slice ag ds.length c) ds.length (ZG ds) rfl b2.out.row ⟨n.heap.size,0,none⟩ 1 1 [.int .i64 nx,.slice (some ⟨l,0,none⟩) p.length o] rfl rfl (World.news_of_block (cs:=#[.int .i64 nx,.slice (some ⟨l,0,none⟩) p.length o]) cB.out) (by simp [Value.oneCell']) (by omega) (by unfold maxLen;omega) (by omega) (by omega) w8.heap.size rfl ?_
     intro g9 c9 w9 s a V cN
     rw [b2.out.own] at a V
     have bT:Hid (Z2 base w9 g9 c9 (ds++[(nx,l,o,p)])):=DRV.snoc b2.out c3.out (fun e=>by have:=aR l e;omega) (fun x hx=>by have:=(HR.out.rows x hx).1.lt2;omega) s a V
     have A:∀b,b<n.heap.size->og≠some b->w9.heap[b]? =n.heap[b]? :=fun b h1 h2=>(a.block b (by omega) (fun e=>h2 e.symm)).trans (L8.block b h1)
     have d9:n.heap.size<w9.heap.size:=by have:=a.size;omega
     have bP:Hid (Cgd (fun b=>b=D\/og=some b) k w9):=cD.out.trans ⟨a.os.trans L8.os,a.tape.trans L8.tape,a.output.trans L8.output,by omega,fun b h1 h2=>A b h1 (fun e=>h2 (Or.inr e))⟩
     have cj:Hid (Zcj wo.heap.size n.heap.size w9 va F):=(ZbY.int ci.out).step (by omega) (fun b h1 h2=>A b h2 (fun e=>by have:=aR b e;omega))
     have bR:g9≠D:=by
      rcases V with e | e
      · exact fun h=>aF (by rw [e,h])
      · omega
     refine f.out _ _ A (fun _=>?_)
     clear f K s a
     refine Zc 8 (by kernel_rfl) rfl (fun K f=>?_)
     go_simp
     refine f.out _ _ A (fun _=>?_)
     clear f K
     refine Zc 9 (by kernel_rfl) rfl (fun K f=>?_)
     go_simp
     refine f.out _ _ A (fun _=>?_)
     clear f K
     refine wpAnyH_done (by kernel_rfl) ?_ _
     simp only [Exit.then]
     have aS:w9.heap[D]? =some (.cells #[.int .i64 wd,.slice ag ds.length c,.int .i64 LD,.slice va F.length vc,.int .i64 nx,vq] 44):=(A D aO aF).trans ce.out
     obtain⟨f0,f1,f2,f3,f4,-,ff,cI⟩:=Zh aS
     have cb:=ff 1
     have bW:=ff 4
     have az:Two w9 i (.int .i64 nx) (.slice (some ⟨l,0,none⟩) p.length o) 161:=(A i aH aP).trans b9.out
     have m0:=az.c0
     obtain⟨wa,a1⟩:∃wa,w9.setCell ⟨D,1,none⟩ (.slice (some ⟨g9,0,none⟩) (ds.length+1) c9)=wa:=⟨_,rfl⟩
     have ba:wa.heap[D]? =some (.cells #[.int .i64 wd,.slice (some ⟨g9,0,none⟩) (ds.length+1) c9,.int .i64 LD,.slice va F.length vc,.int .i64 nx,vq] 44):=by rw [<-a1];exact heap_setCell_same w9 D 1 _ _ _ aS
     have ab:∀b,b≠D->wa.heap[b]? =w9.heap[b]? :=fun b C=>by rw [<-a1];exact Below.heap_setCell _ ⟨D,1,none⟩ _ b (fun e=>C e)
     have cr:w9.heap.size=wa.heap.size:=by rw [<-a1,Ze]
     go_wp2_with fail
     refine NoPanic.normal ?_
     first | rw [a1] | skip
     clear f0 f1 f2 f3 f4 ff cb bW m0
     obtain⟨q0,q1,q2,q3,q4,-,qf,cH⟩:=Zh ba
     have d1:=qf 4
     have bt:Two wa i (.int .i64 nx) (.slice (some ⟨l,0,none⟩) p.length o) 161:=(ab i (by omega)).trans az
     have m0:=bt.c0
     obtain⟨wb,P⟩:∃wb,wa.setCell ⟨D,4,none⟩ (.int .i64 (nx+1))=wb:=⟨_,rfl⟩
     have bk:wb.heap[D]? =some (.cells #[.int .i64 wd,.slice (some ⟨g9,0,none⟩) (ds.length+1) c9,.int .i64 LD,.slice va F.length vc,.int .i64 (nx+1),vq] 44):=by rw [<-P];exact heap_setCell_same wa D 4 _ _ _ ba
     have N:∀b,b≠D->wb.heap[b]? =w9.heap[b]? :=fun b C=>by rw [<-P];exact (Below.heap_setCell _ ⟨D,4,none⟩ _ b (fun e=>C e)).trans (ab b C)
     have cZ:w9.heap.size=wb.heap.size:=by rw [<-P,Ze];exact cr
     have bx:Two wb i (.int .i64 nx) (.slice (some ⟨l,0,none⟩) p.length o) 161:=(N i (by omega)).trans az
     have m1:=bx.c0
     have cf:Hid (Cgd (fun b=>b=D\/og=some b) k wb):=bP.out.trans ⟨by rw [<-P,<-a1];rfl,by rw [<-P,<-a1];rfl,by rw [<-P,<-a1];rfl,by omega,fun b _ h2=>N b (fun e=>h2 (Or.inl e))⟩
     have c5:Hid (Zcj wo.heap.size n.heap.size wb va F):=Zcj.step cj.out (by omega) (fun b h1 _=>N b (by omega))
     have aU:Hid ((og=some g9\/n.heap.size<=g9)/\n.heap.size<=wb.heap.size/\wo.heap.size<=n.heap.size):=⟨V.imp (fun e=>e) (fun e=>by omega),by omega,by omega⟩
     have bX:Hid (∃gp' cq',Z2 base wb g9 c9 (ds++[(nx,gp',cq',p)])/\(∀x∈ds++[(nx,gp',cq',p)],x.2.1≠D)):=by
      have bE:∀x∈ds++[(nx,l,o,p)],x.2.1≠D:=fun x hx e=>by
       rcases List.mem_append.1 hx with hx | hx
       · exact bv.out x hx e
       · rw [List.mem_singleton.1 hx] at e
         have e':l=D:=e
         omega
      exact⟨l,o,Zji (D:=D) bT.out (by omega) (fun b _ _ h6=>N b h6) bR bE,bE⟩
     have bZ:=Za bk
     clear ba bk bt bx az aS ab N
     have c4:wrap64 (nx+1)=nx+1:=by have:=bY.out;unfold wrap64;omega
     go_wp2_with fail
     first | rw [c4,P] | rw [P] | skip
     go_wp2_with fail
     go_ret
     refine⟨(fun h=>by rw [bl.out] at h;cases h),fun _=>⟨rfl,g9,c9,va,vc,?_,bX.out,?_,cf.out⟩⟩
     · rw [am.out.1,am.out.2.1];exact bZ.out
     · rw [am.out.2.1];exact⟨n.heap.size,by have:=aU.out.2.2;omega,aU.out.2.1,Zcj.low c5.out (by omega),aU.out.1⟩
theorem Zkh{α :Type}(l:List α)(k:Nat):(l.take k++l.drop (k+1)).Sublist l:=by
 induction l generalizing k with
 | nil=>simp
 | cons a l ih=>
   cases k with
   | zero=>simp
   | succ k=>simpa using ih k
theorem Zif{w:World}{q:Nat}{a b c d e f v:Value}{t:TypeId}(h:w.heap[q]? =some (.cells #[a,b,c,d,e,f] t)):(w.setCell ⟨q,1,none⟩ v).heap[q]? =some (.cells #[a,v,c,d,e,f] t):=by
 simp [World.setCell,Array.getElem?_modify,h]
theorem Zn3(base D gm c:Nat)(vq:Value)(ds:List Dm)(wd d nx id:Int)(vt:Value)(w:World)(hD:w.heap[D]? =some (.cells #[.int .i64 wd,.slice (some ⟨gm,0,none⟩) ds.length c,.int .i64 d,vt,.int .i64 nx,vq] 44))(hr:Z2 base w gm c ds)(hn:ds.length<=60)(hDp:∀x∈ds,x.2.1≠D):
 Calls Tryz.prog 80 #[.pointer (some ⟨D,0,none⟩),.int .i64 id] w fun e w'=>(ZC (Zs ds) id<0->e=.returned (.bool false)/\w'=w)/\(0<=ZC (Zs ds) id->e=.returned (.bool true)/\∃g c2,w'.heap[D]? =some (.cells #[.int .i64 wd,.slice (some ⟨g,0,none⟩) (ds.take (ZD (Zs ds) id)++ds.drop (ZD (Zs ds) id+1)).length c2,.int .i64 d,vt,.int .i64 nx,vq] 44)/\(ds.take (ZD (Zs ds) id)++ds.drop (ZD (Zs ds) id+1)).length<=c2/\w.heap.size<=g/\Z2 base w' g c2 (ds.take (ZD (Zs ds) id)++ds.drop (ZD (Zs ds) id+1))/\Cgd (fun b=>b=D) w w'):=by
 obtain⟨j0,a3,Z,a0,a2⟩:=info_parts Tryz.info161
 obtain⟨e0,e1,e2,e3,e4,-,ef,r⟩:=Zh hD
 have T:=ZI ds
 have HF:=Za (Zgo (some ⟨gm,0,none⟩) c (Zs ds) id w hr.view (by rw [T];omega))
 rw [T] at HF
 have HD:=Za hD
 have HR:=Za hr
 have O:=Za hr.cap
 have ah:=hr.lt
 have V:gm≠D:=fun e=>by
  have h1:=World.ownsRow.cellAt hr.1
  obtain⟨g',hh⟩:∃M,w.heap[gm]? =some (.cells M 161):=by
   obtain⟨-,⟨x,-⟩ | ⟨g',cap,M,x,-,hg,-⟩⟩:=hr.1
   · cases x
   · injection x with x1;injection x1 with x1;injection x1 with x1
     exact⟨M,by rw [x1];exact hg⟩
  rw [e,hD] at hh
  injection hh with hh
  injection hh with _ hh
  exact absurd hh (by decide)
 rcases Int.lt_or_le (ZC (Zs ds) id) 0 with hz | hz
 · have aq:¬0<=ZC (Zs ds) id:=by omega
   obtain⟨z,av⟩:∃z,ZC (Zs ds) id=z:=⟨_,rfl⟩
   rw [av] at HF hz
   have HZ:=Za aq
   clear aq av hr hD HD HR O ah V ef T
   go_enter Tryz.func80,Tryz.ntmps80
   go_wp2_with fail
   refine HF.out.mono ?_
   rintro e w1 ⟨rfl,I⟩
   subst I
   go_wp2_with fail
   go_ret
   exact⟨fun _=>⟨rfl,rfl⟩,fun h=>absurd HZ.out (by omega)⟩
 · obtain⟨ar,a9,-⟩:=Zab hz
   obtain⟨k,hk⟩:∃k,ZD (Zs ds) id=k:=⟨_,rfl⟩
   rw [T] at ar
   rw [hk] at ar a9 ⊢
   rw [<-a9] at HF
   have HZ:=Za (And.intro hz hk)
   have a4:=Za ah.2
   have Y:Hid (∀x∈ds,x.2.1<w.heap.size/\x.2.1≠D):=fun x hx=>⟨(hr.2.1 x hx).1.lt2.2,fun e=>hDp x hx e⟩
   clear hz hk a9 T hr hD ah
   have aV:k+1<=c:=by have:=O.out;omega
   have aM:k<=c:=by omega
   have aW:(k:Int)<=(k:Int)+1:=by omega
   have aS:=n0Z k
   have aT:IntKind.i64.wrap ((k:Int)+1)=(k:Int)+1:=IntWalk.i64_in _ ⟨by omega,by omega⟩
   have b1:(0:Int)<=(k:Int)+1:=by omega
   have I:(k:Int)+1<=(ds.length:Int):=by omega
   have aY:((k:Int)+1).toNat=k+1:=by omega
   have H:Hid (∀W':World,W'.heap[D]? =w.heap[D]? ->W'.cell? ⟨D,1,none⟩=some (.slice (some ⟨gm,0,none⟩) ds.length c)):=fun W' h=>(World.cell?_of_block (a:=⟨D,1,none⟩) h).trans e1
   have ap:=ef 1
   have C:ZX w 2 (some ⟨gm,0,none⟩) (ds.take k).length (ZG (ds.take k)):=by
    have:=Zib (es:=ds.take k) HR.out.1 0 (by rw [List.length_take];omega) (fun i hi=>by rw [Nat.zero_add];exact Zjg ds k i (by rw [List.length_take] at hi;omega)) rfl
    rw [Nat.zero_mul] at this
    exact this
   have ai:(ds.take k).length=k:=by rw [List.length_take];omega
   have ag:(ds.drop (k+1)).length=ds.length-(k+1):=List.length_drop
   rw [ai] at C
   have a1:=Za C
   have X:Hid (ZX w 2 (if c=k+1 then some ⟨gm,0,none⟩ else some ⟨gm,(k+1)*2,none⟩) (ds.length-(k+1)) (ZG (ds.drop (k+1)))):=by
    show ZX _ _ _ _ _
    by_cases hc:c=k+1
    · have aP:=O.out
      have h0:ds.drop (k+1)=[]:=List.drop_eq_nil_of_le (by omega)
      rw [if_pos hc,h0]
      exact⟨by simp [ZG];omega,by simp [ZG],Or.inl (by omega)⟩
    · rw [if_neg hc,<-ag]
      exact Zib (es:=ds.drop (k+1)) HR.out.1 (k+1) (by rw [List.length_drop];omega) (fun i _=>Zjh ds (k+1) i) rfl
   have J:=Za (And.intro ai ag)
   clear e2 e3 e4 ef C ai ag
   by_cases hc:c=k+1
   · subst hc
     have W:Hid (ZX w 2 (some ⟨gm,0,none⟩) (ds.length-(k+1)) (ZG (ds.drop (k+1)))):=by have h:=X.out;rw [if_pos rfl] at h;exact h
     clear X
     go_enter Tryz.func80,Tryz.ntmps80
     go_wp2_with fail
     refine HF.out.mono ?_
     rintro e w1 ⟨rfl,I⟩
     have aa:=I.symm
     subst aa
     clear HF
     go_wp2_with fail
     clear e0 e1 ap
     refine Zay (S:=fun W'=>W'.cell? ⟨D,1,none⟩=some (.slice (some ⟨gm,0,none⟩) ds.length (k+1))) (fuel:=5)
      [0,2,3,4,5,6,7,9,10,11,12,13,14,15] _ rfl (by kernel_rfl) (by kernel_rfl) (by kernel_rfl) (by kernel_rfl) (by kernel_rfl) (by kernel_rfl) (by kernel_rfl) (H.out _ rfl) (fun _=>?_)
     iterate 14
      refine⟨_,rfl,?_⟩
      apply Exists.intro
      refine⟨Or.inl ⟨by rfl,fun w' aI=>?_⟩,?_⟩
      · first
        | (go_simp;done)
        | (go_simp;with_reducible rfl)
      simp only [Act.put,List.setIfInBounds_toArray]
     refine Zc 1 (by kernel_rfl) rfl (fun K n=>?_)
     go_simp
     obtain⟨G,v⟩:∃G,(w.alloc (.cells #[] 161)).drew=G:=⟨_,rfl⟩
     have L5:Below w.heap.size w G:=by rw [<-v];exact ((Below.refl w.heap.size w).alloc (Nat.le_refl _) _).drew
     have U:Hid (G.ownsRow w.heap.size 161 2 (.slice (some ⟨w.heap.size,0,none⟩) 0 0) 0 []):=by
      have h:(w.alloc (.cells #[] 161)).ownsRow w.heap.size 161 2 (.slice (some ⟨w.heap.size,0,none⟩) 0 0) 0 []:=World.ownsRow_lit w #[] 0 (Nat.le_refl _) (Nat.zero_le _) rfl
      show _
      rw [<-v]
      exact h
     have aE:G.heap.size=w.heap.size+1:=by rw [<-v];simp
     have B:=Za L5
     rw [v]
     clear v L5
     refine n.out _ _ (H.out _ (B.out.block D r)) (fun _=>?_)
     clear n K
     refine Zc 8 (by kernel_rfl) rfl (fun K n=>?_)
     refine Zj G rfl (.tmp 15) (.tmp 21) 36 rfl w.heap.size 161 j0 _ 2 32 Tryz.underlying36 a3 Z a0 a2 rfl (by omega) w.heap.size 0 0 [] rfl U.out (some ⟨gm,0,none⟩) k (k+1) (ZG (ds.take k)) rfl (Zd4 a1.out (B.out.block gm a4.out)) (by unfold maxLen;omega) (by omega) (by omega) G.heap.size rfl ?_
     intro g6 c6 w6 y j aw an
     have E:=Za y
     have aK:=j.size
     have p:Hid (Below w.heap.size w w6):=B.out.grown j (by omega) (by intro q hq;cases hq;omega)
     clear y j
     refine n.out _ _ (H.out _ (p.out.block D r)) (fun _=>?_)
     clear n K
     refine Zc 16 (by kernel_rfl) rfl (fun K n=>?_)
     refine Zj w6 rfl (.tmp 22) (.tmp 29) 36 rfl w.heap.size 161 j0 _ 2 32 Tryz.underlying36 a3 Z a0 a2 rfl (by omega) g6 (0+k) c6 ([]++ZG (ds.take k)) rfl E.out (some ⟨gm,0,none⟩) (ds.length-(k+1)) 0 (ZG (ds.drop (k+1))) rfl (Zd4 W.out (p.out.block gm a4.out)) (by unfold maxLen;omega) (by omega) (by have:=p.out.size;omega) w6.heap.size rfl ?_
     intro L N R u o ak am
     have aD:=(World.ownsRow.lt E.out g6 rfl).1
     have f:Hid (Below w.heap.size w R):=p.out.grown o (by have:=p.out.size;omega) (by intro q hq;cases hq;omega)
     have s:Hid (R.ownsRow w.heap.size 161 2 (.slice (some ⟨L,0,none⟩) (k+(ds.length-(k+1))) N) (k+(ds.length-(k+1))) (ZG (ds.take k++ds.drop (k+1)))):=by
      have h:=u
      rw [List.nil_append,<-Za2,Nat.zero_add] at h
      exact h
     clear u o
     refine n.out _ _ (H.out _ (f.out.block D r)) (fun _=>?_)
     clear n K
     refine Zc 17 (by kernel_rfl) rfl (fun K n=>?_)
     go_simp
     refine n.out _ _ (H.out _ (f.out.block D r)) (fun _=>?_)
     clear n K
     refine Zc 18 (by kernel_rfl) rfl (fun K n=>?_)
     go_simp
     refine n.out _ _ (H.out _ (f.out.block D r)) (fun _=>?_)
     clear n K
     refine wpAnyH_done (by kernel_rfl) ?_ _
     simp only [Exit.then]
     have t8:=(f.out.block D r).trans HD.out
     obtain⟨-,u1,-,-,-,-,uf,-⟩:=Zh t8
     have aF:=uf 1
     obtain⟨l,t⟩:∃n8,k+(ds.length-(k+1))=n8:=⟨_,rfl⟩
     have m:(ds.take k++ds.drop (k+1)).length=l:=by rw [List.length_append,J.out.1,J.out.2];omega
     rw [t] at s ⊢
     have a7:Hid (∀w':World,w'=R.setCell ⟨D,1,none⟩ (.slice (some ⟨L,0,none⟩) l N)->∃g c2,w'.heap[D]? =some (.cells #[.int .i64 wd,.slice (some ⟨g,0,none⟩) (ds.take k++ds.drop (k+1)).length c2,.int .i64 d,vt,.int .i64 nx,vq] 44)/\(ds.take k++ds.drop (k+1)).length<=c2/\w.heap.size<=g/\Z2 base w' g c2 (ds.take k++ds.drop (k+1))/\Cgd (fun b=>b=D) w w'):=fun w' e=>by
      have A:∀b,b≠D->w'.heap[b]? =R.heap[b]? :=fun b hb=>by rw [e];exact Below.heap_setCell R ⟨D,1,none⟩ _ b (fun e=>hb e)
      have Q:=(World.ownsRow.lt s.out L rfl)
      have F:l<=N:=by
       obtain⟨-,⟨x,-⟩ | ⟨g',cap,M,x,-,-,aL,-⟩⟩:=s.out
       · cases x
       · injection x with x1 x2 x3;omega
      have P:w'.ownsRow w.heap.size 161 2 (.slice (some ⟨L,0,none⟩) l N) l (ZG (ds.take k++ds.drop (k+1))):=Zci s.out (fun g eg=>by
       have e':g=L:=by simpa [Value.ownBlock] using eg.symm
       exact A g (by omega))
      rw [m]
      refine⟨L,N,by rw [e];exact Zif t8,F,Q.1,?_,?_⟩
      · exact Zie HR.out.drv (Zkh ds k) (by rw [m];exact P) (by have:=HR.out.lt;omega) Q.1 (fun x hx=>(A _ (Y.out x hx).2).trans (f.out.block _ (Y.out x hx).1))
      · exact⟨by rw [e];exact f.out.os,by rw [e];exact f.out.tape,by rw [e];exact f.out.output,by rw [e,Ze];exact f.out.size,fun b hb V=>(A b V).trans (f.out.block b hb)⟩
     clear t8 uf t m U E B p s H HD a1 W J
     go_wp2_with fail
     refine NoPanic.normal ?_
     go_wp2_with fail
     go_ret
     exact⟨fun h=>absurd h (by have:=HZ.out.1;omega),fun _=>⟨rfl,a7.out _ rfl⟩⟩
   · have W:Hid (ZX w 2 (some ⟨gm,(k+1)*2,none⟩) (ds.length-(k+1)) (ZG (ds.drop (k+1)))):=by have h:=X.out;rw [if_neg hc] at h;exact h
     clear X
     go_enter Tryz.func80,Tryz.ntmps80
     go_wp2_with fail
     refine HF.out.mono ?_
     rintro e w1 ⟨rfl,I⟩
     have aa:=I.symm
     subst aa
     clear HF
     go_wp2_with fail
     clear e0 e1 ap
     refine Zay (S:=fun W'=>W'.cell? ⟨D,1,none⟩=some (.slice (some ⟨gm,0,none⟩) ds.length c)) (fuel:=5)
      [0,2,3,4,5,6,7,9,10,11,12,13,14,15] _ rfl (by kernel_rfl) (by kernel_rfl) (by kernel_rfl) (by kernel_rfl) (by kernel_rfl) (by kernel_rfl) (by kernel_rfl) (H.out _ rfl) (fun _=>?_)
     iterate 14
      refine⟨_,rfl,?_⟩
      apply Exists.intro
      refine⟨Or.inl ⟨by rfl,fun w' aI=>?_⟩,?_⟩
      · first
        | (go_simp;done)
        | (go_simp;with_reducible rfl)
      simp only [Act.put,List.setIfInBounds_toArray]
     refine Zc 1 (by kernel_rfl) rfl (fun K n=>?_)
     go_simp
     obtain⟨G,v⟩:∃G,(w.alloc (.cells #[] 161)).drew=G:=⟨_,rfl⟩
     have L5:Below w.heap.size w G:=by rw [<-v];exact ((Below.refl w.heap.size w).alloc (Nat.le_refl _) _).drew
     have U:Hid (G.ownsRow w.heap.size 161 2 (.slice (some ⟨w.heap.size,0,none⟩) 0 0) 0 []):=by
      have h:(w.alloc (.cells #[] 161)).ownsRow w.heap.size 161 2 (.slice (some ⟨w.heap.size,0,none⟩) 0 0) 0 []:=World.ownsRow_lit w #[] 0 (Nat.le_refl _) (Nat.zero_le _) rfl
      show _
      rw [<-v]
      exact h
     have aE:G.heap.size=w.heap.size+1:=by rw [<-v];simp
     have B:=Za L5
     rw [v]
     clear v L5
     refine n.out _ _ (H.out _ (B.out.block D r)) (fun _=>?_)
     clear n K
     refine Zc 8 (by kernel_rfl) rfl (fun K n=>?_)
     refine Zj G rfl (.tmp 15) (.tmp 21) 36 rfl w.heap.size 161 j0 _ 2 32 Tryz.underlying36 a3 Z a0 a2 rfl (by omega) w.heap.size 0 0 [] rfl U.out (some ⟨gm,0,none⟩) k c (ZG (ds.take k)) rfl (Zd4 a1.out (B.out.block gm a4.out)) (by unfold maxLen;omega) (by omega) (by omega) G.heap.size rfl ?_
     intro g6 c6 w6 y j aw an
     have E:=Za y
     have aK:=j.size
     have p:Hid (Below w.heap.size w w6):=B.out.grown j (by omega) (by intro q hq;cases hq;omega)
     clear y j
     refine n.out _ _ (H.out _ (p.out.block D r)) (fun _=>?_)
     clear n K
     refine Zc 16 (by kernel_rfl) rfl (fun K n=>?_)
     refine Zj w6 rfl (.tmp 22) (.tmp 29) 36 rfl w.heap.size 161 j0 _ 2 32 Tryz.underlying36 a3 Z a0 a2 rfl (by omega) g6 (0+k) c6 ([]++ZG (ds.take k)) rfl E.out (some ⟨gm,(k+1)*2,none⟩) (ds.length-(k+1)) (c-(k+1)) (ZG (ds.drop (k+1))) rfl (Zd4 W.out (p.out.block gm a4.out)) (by unfold maxLen;omega) (by omega) (by have:=p.out.size;omega) w6.heap.size rfl ?_
     intro L N R u o ak am
     have aD:=(World.ownsRow.lt E.out g6 rfl).1
     have f:Hid (Below w.heap.size w R):=p.out.grown o (by have:=p.out.size;omega) (by intro q hq;cases hq;omega)
     have s:Hid (R.ownsRow w.heap.size 161 2 (.slice (some ⟨L,0,none⟩) (k+(ds.length-(k+1))) N) (k+(ds.length-(k+1))) (ZG (ds.take k++ds.drop (k+1)))):=by
      have h:=u
      rw [List.nil_append,<-Za2,Nat.zero_add] at h
      exact h
     clear u o
     refine n.out _ _ (H.out _ (f.out.block D r)) (fun _=>?_)
     clear n K
     refine Zc 17 (by kernel_rfl) rfl (fun K n=>?_)
     go_simp
     refine n.out _ _ (H.out _ (f.out.block D r)) (fun _=>?_)
     clear n K
     refine Zc 18 (by kernel_rfl) rfl (fun K n=>?_)
     go_simp
     refine n.out _ _ (H.out _ (f.out.block D r)) (fun _=>?_)
     clear n K
     refine wpAnyH_done (by kernel_rfl) ?_ _
     simp only [Exit.then]
     have t8:=(f.out.block D r).trans HD.out
     obtain⟨-,u1,-,-,-,-,uf,-⟩:=Zh t8
     have aF:=uf 1
     obtain⟨l,t⟩:∃n8,k+(ds.length-(k+1))=n8:=⟨_,rfl⟩
     have m:(ds.take k++ds.drop (k+1)).length=l:=by rw [List.length_append,J.out.1,J.out.2];omega
     rw [t] at s ⊢
     have a7:Hid (∀w':World,w'=R.setCell ⟨D,1,none⟩ (.slice (some ⟨L,0,none⟩) l N)->∃g c2,w'.heap[D]? =some (.cells #[.int .i64 wd,.slice (some ⟨g,0,none⟩) (ds.take k++ds.drop (k+1)).length c2,.int .i64 d,vt,.int .i64 nx,vq] 44)/\(ds.take k++ds.drop (k+1)).length<=c2/\w.heap.size<=g/\Z2 base w' g c2 (ds.take k++ds.drop (k+1))/\Cgd (fun b=>b=D) w w'):=fun w' e=>by
      have A:∀b,b≠D->w'.heap[b]? =R.heap[b]? :=fun b hb=>by rw [e];exact Below.heap_setCell R ⟨D,1,none⟩ _ b (fun e=>hb e)
      have Q:=(World.ownsRow.lt s.out L rfl)
      have F:l<=N:=by
       obtain⟨-,⟨x,-⟩ | ⟨g',cap,M,x,-,-,aL,-⟩⟩:=s.out
       · cases x
       · injection x with x1 x2 x3;omega
      have P:w'.ownsRow w.heap.size 161 2 (.slice (some ⟨L,0,none⟩) l N) l (ZG (ds.take k++ds.drop (k+1))):=Zci s.out (fun g eg=>by
       have e':g=L:=by simpa [Value.ownBlock] using eg.symm
       exact A g (by omega))
      rw [m]
      refine⟨L,N,by rw [e];exact Zif t8,F,Q.1,?_,?_⟩
      · exact Zie HR.out.drv (Zkh ds k) (by rw [m];exact P) (by have:=HR.out.lt;omega) Q.1 (fun x hx=>(A _ (Y.out x hx).2).trans (f.out.block _ (Y.out x hx).1))
      · exact⟨by rw [e];exact f.out.os,by rw [e];exact f.out.tape,by rw [e];exact f.out.output,by rw [e,Ze];exact f.out.size,fun b hb V=>(A b V).trans (f.out.block b hb)⟩
     clear t8 uf t m U E B p s H HD a1 W J
     go_wp2_with fail
     refine NoPanic.normal ?_
     go_wp2_with fail
     go_ret
     exact⟨fun h=>absurd h (by have:=HZ.out.1;omega),fun _=>⟨rfl,a7.out _ rfl⟩⟩
theorem Zpm(base D c:Nat)(ag:Option Addr)(og:Option Nat)(ds:List Dm)(vq:Value)(wd d nx id:Int)(vt:Value)(w:World)(hD:w.heap[D]? =some (.cells #[.int .i64 wd,.slice ag ds.length c,.int .i64 d,vt,.int .i64 nx,vq] 44))(hr:DRV base w ag c og ds)(hn:ds.length<=60)(hDp:∀x∈ds,x.2.1≠D):
 Calls Tryz.prog 80 #[.pointer (some ⟨D,0,none⟩),.int .i64 id] w fun e w'=>(ZC (Zs ds) id<0->e=.returned (.bool false)/\w'=w)/\(0<=ZC (Zs ds) id->e=.returned (.bool true)/\∃g c2,w'.heap[D]? =some (.cells #[.int .i64 wd,.slice (some ⟨g,0,none⟩) (ds.take (ZD (Zs ds) id)++ds.drop (ZD (Zs ds) id+1)).length c2,.int .i64 d,vt,.int .i64 nx,vq] 44)/\(ds.take (ZD (Zs ds) id)++ds.drop (ZD (Zs ds) id+1)).length<=c2/\w.heap.size<=g/\Z2 base w' g c2 (ds.take (ZD (Zs ds) id)++ds.drop (ZD (Zs ds) id+1))/\Cgd (fun b=>b=D) w w'):=by
 rcases hr.cases with ⟨rfl,rfl,rfl,rfl⟩ | ⟨g,rfl,rfl,hrw⟩
 · have q:ZC (Zs []) id<0:=by simp [ZC,Z6,Zs]
   have j:=Za (Zgo none 0 (Zs []) id w (Or.inl rfl) (by decide))
   have f:¬0<=ZC (Zs []) id:=by omega
   obtain⟨z,a⟩:∃z,ZC (Zs []) id=z:=⟨_,rfl⟩
   have u:Hid (Calls Tryz.prog 116 #[.slice none 0 0,.int .i64 id] w fun e w'=>e=.returned (.int .i64 z)/\w'=w):=by rw [<-a];exact j.out
   rw [a] at q
   have t:=Za f
   obtain⟨r,k,o,s,n,-,p,m⟩:=Zh hD
   have l:w.cell? ⟨D,1,none⟩=some (.slice none 0 0):=k
   clear k f a j r o s n p hr hD
   go_enter Tryz.func80,Tryz.ntmps80
   go_wp2_with fail
   refine u.out.mono ?_
   rintro e v ⟨rfl,i⟩
   subst i
   go_wp2_with fail
   go_ret
   exact⟨fun _=>⟨rfl,rfl⟩,fun h=>absurd t.out (by omega)⟩
 · exact Zn3 base D g c vq ds wd d nx id vt w hD hrw hn hDp
theorem Zcr(f:Nat->Nat)(c:Nat):∀n,(∀i,i<n->f i<=c)->tot f n<=n*c
 | 0,_=>by simp [tot]
 | n+1,h=>by
   have h1:=Zcr f c n (fun i hi=>h i (by omega))
   have h2:=h n (by omega)
   have h3:(n+1)*c=n*c+c:=Nat.succ_mul n c
   simp only [tot]
   omega
theorem Zd6{ms:List Mk}{a b:Nat}(h1:ms.length<=a)(h2:∀i,(mat ms i).length<=b):Zb1 ms<=a+a*b:=by
 have h:=Zcr (fun j=>(mat ms j).length) b ms.length (fun i _=>h2 i)
 have c:=Nat.mul_le_mul_right b h1
 unfold Zb1
 omega
theorem Zhe{ls:List (List Int)}{a b:Nat}(h1:ls.length<=a)(h2:∀i,(cn ls i).length<=b):ZeT ls<=a+a*b:=by
 have h:=Zcr (fun j=>(cn ls j).length) b ls.length (fun i _=>h2 i)
 have c:=Nat.mul_le_mul_right b h1
 unfold ZeT
 omega
theorem ZiQ{wd nx d:Int}{ms:List Mk}{ts:List Wb}{p:List Int}(hst:stB wd ms d ts nx=true)(hsm:Z0 ms ts)(b:Bool)(hb:b=true->ZcX (nx,p) ts d=true):Z0 (kpMs b ms nx p) (kpTs b nx p ts d):=by
 obtain⟨q,a,-,-⟩:=ZaY hst
 rcases b with _ | _
 · exact hsm
 have s:=hb rfl
 have n:=ZF (ZfE a s)
 rw [List.length_append,List.length_singleton] at n
 have y:=ZfF hst
 have r:=(ZaP (ZmC a s)).2
 show Z0 (ms++[(nx,p)]) (Zb2 (nx,p) ts d)
 have o:(ms++[(nx,p)]).length<=60:=by rw [List.length_append,List.length_singleton];omega
 have k:∀i,(mat (ms++[(nx,p)]) i).length<=4:=fun i=>by
  rcases Nat.lt_or_ge i (ms++[(nx,p)]).length with f | f
  · have v:(ms++[(nx,p)])[i]∈ms++[(nx,p)]:=List.getElem_mem f
    have e:mat (ms++[(nx,p)]) i=((ms++[(nx,p)])[i]).2:=by simp only [mat,List.getD,List.getElem?_eq_getElem f,Option.getD_some]
    rw [e]
    rcases List.mem_append.1 v with hx | hx
    · exact ZaS q _ hx
    · rw [List.mem_singleton.1 hx];exact r
  · have e:mat (ms++[(nx,p)]) i=[]:=by simp [mat,List.getD,List.getElem?_eq_none f]
    rw [e];simp
 have c:=Zph (nx,p) ts d
 have g:=Zjf (nx,p) ts d
 have l:rT (nx,p) ts d=Zb2 (nx,p) ts d:=by unfold rT;rw [if_pos a]
 rw [l] at c g
 refine⟨⟨by omega,fun i=>by have:=k i;omega⟩,c,?_⟩
 have D:=Zd6 o k
 have A:ZeU (Zb2 (nx,p) ts d)<=4+4*4000:=by
  have h:=Zcr (fun j=>ZcK (Zi (Zb2 (nx,p) ts d) j)) 4000 (Zb2 (nx,p) ts d).length (fun i f=>by
   obtain⟨t,x,w,u⟩:=ZaW (Zkf (m:=(nx,p)) a i (by omega))
   have z:=Zd6 t x
   have B:=Zhe w u
   show Zb1 _+ZeT _<=4000
   omega)
  have C:=Nat.mul_le_mul_right 4000 g
  unfold ZeU
  omega
 omega
theorem Zgt(ms:List Mk):Zb1 ms=Z8 ms:=by
 have h:∀k,k<=ms.length->k+tot (fun j=>(mat ms j).length) k=Z8 (ms.take k):=by
  intro k
  induction k with
  | zero=>intro _;simp [tot,Z8]
  | succ k ih=>
    intro d
    have b:=ih (by omega)
    have c:=Zek ms k (by omega)
    have a:(ZJ ms k).2.length=(mat ms k).length:=rfl
    rw [c,<-b,a]
    simp only [tot]
    omega
 have:=h ms.length (Nat.le_refl _)
 rw [List.take_length] at this
 exact this
theorem Zig(p:Mk->Bool)(ms:List Mk):Z8 (ms.filter p)<=Z8 ms:=by
 induction ms with
 | nil=>simp [Z8]
 | cons m l ih=>
   rcases e:p m with _ | _
   · rw [List.filter_cons,if_neg (by rw [e];simp)]
     simp only [Z8];omega
   · rw [List.filter_cons,if_pos e]
     simp only [Z8];omega
theorem Zku(ms:List Mk)(id:Int):Zb1 (Zaa ms id)<=Zb1 ms:=by
 rw [Zgt,Zgt]
 exact Zig _ ms
end Go.Proofs.YtilkaeclgmcolaaGreat
