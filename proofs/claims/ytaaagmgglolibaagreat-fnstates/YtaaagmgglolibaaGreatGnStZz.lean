import Derived.Test.YtaaagmgglolibaaGreatGnCpyZz
import Derived.Test.YtaaagmgglolibaaGreatTwArgsZz
import Derived.Test.YtaaagmgglolibaaGreatMRowZz
import Derived.Test.YtaaagmgglolibaaGreatLastZz
import Derived.Test.YtaaagmgglolibaaGreatFeHelpZz
set_option maxRecDepth 100000
set_option maxHeartbeats 16000000
namespace Go.Proofs.YtaaagmgglolibaaGreat
open Go Go.RowKit
theorem ZbW{w:World}{q:Nat}{a b c d e a' b' c' d' e':Value}{t:TypeId}(h:w.heap[q]? =some (.cells #[a,b,c,d,e] t)):(((((w.setCell ⟨q,0,none⟩ a').setCell ⟨q,1,none⟩ b').setCell ⟨q,2,none⟩ c').setCell ⟨q,3,none⟩ d').setCell ⟨q,4,none⟩ e').heap[q]? =some (.cells #[a',b',c',d',e'] t):=by
 simp [World.setCell,Array.getElem?_modify,h]
theorem Zbw{w:World}{q b:Nat}{a' b' c' d' e':Value}(h:b≠q):(((((w.setCell ⟨q,0,none⟩ a').setCell ⟨q,1,none⟩ b').setCell ⟨q,2,none⟩ c').setCell ⟨q,3,none⟩ d').setCell ⟨q,4,none⟩ e').heap[b]? =w.heap[b]? :=by
 rw [Below.heap_setCell _ ⟨q,4,none⟩ _ b h,Below.heap_setCell _ ⟨q,3,none⟩ _ b h,Below.heap_setCell _ ⟨q,2,none⟩ _ b h,Below.heap_setCell _ ⟨q,1,none⟩ _ b h,Below.heap_setCell _ ⟨q,0,none⟩ _ b h]
def Zlz(base:Nat)(w:World)(gm c:Nat)(vt:Value)(ds:List Dm)(ts:List Wb):Prop:=
 ∃B,ZL base w gm c ds/\ZdG B w vt ts/\gm<B/\(∀d∈ds,d.2.1<B)/\base<=B
theorem ZdG.stay{base:Nat}{w w':World}{v:Value}{ts:List Wb}(h:ZdG base w v ts)(hs:w.heap.size<=w'.heap.size)(e:∀b,base<=b->b<w.heap.size->w'.heap[b]? =w.heap[b]?):ZdG base w' v ts:=by
 obtain⟨S,vm,vl,h⟩:=h
 exact⟨S,vm,vl,h.sm ⟨hs,fun b hb=>e b (h.bnd b hb).1 (h.bnd b hb).2⟩⟩
theorem ZdG.form{base:Nat}{w:World}{v:Value}{ts:List Wb}(h:ZdG base w v ts):∃a c,v=.slice a ts.length c/\ts.length<=c/\Zz true w a ts:=by
 obtain⟨S,vm,vl,h⟩:=h
 exact h.form
theorem Zlz.stay{base:Nat}{w w':World}{gm c:Nat}{vt:Value}{ds:List Dm}{ts:List Wb}(h:Zlz base w gm c vt ds ts)(hs:w.heap.size<=w'.heap.size)(e:∀b,base<=b->b<w.heap.size->w'.heap[b]? =w.heap[b]?):Zlz base w' gm c vt ds ts:=by
 obtain⟨B,h1,h2,h3,h4,h5⟩:=h
 exact⟨B,ZaC h1 e,h2.stay hs (fun b hb hb2=>e b (by omega) hb2),h3,h4,h5⟩
theorem ZlA(v:Bool)(am aw:Option Addr)(cm cw:Nat)(wd:Int)(ms:List Mk)(d:Int)(ts:List Wb)(nx:Int)(w:World)(hm:Zq w am ms)(hv:Zz v w aw ts)(hmb:Zn ms=true)(hok:ZZ d ts=true):
 Calls Tryz.prog 134 #[.agg #[.int .i64 wd,.slice am ms.length cm,.int .i64 d,.slice aw ts.length cw,.int .i64 nx]] w fun e w'=>∃gm c vt,e=.returned (.agg #[.int .i64 wd,.slice (some ⟨gm,0,none⟩) ms.length c,.int .i64 d,vt,.int .i64 nx])/\(∃ds,Zj ds=ms/\Zlz (w.heap.size+1+1) w' gm c vt ds ts)/\Below w.heap.size w w':=by
 obtain⟨W1,hW1⟩:∃W,w.alloc (.cells #[.int .i64 wd,.slice am ms.length cm,.int .i64 d,.slice aw ts.length cw,.int .i64 nx] 52)=W:=⟨_,rfl⟩
 have hB1:Below w.heap.size w W1:=by rw [<-hW1];exact (Below.refl _ _).alloc (Nat.le_refl _) _
 have hI1:Z7 v W1 w.heap.size am aw cm cw wd ms d ts nx:=by rw [<-hW1];exact Z7.box hm hv
 obtain⟨W,hW⟩:∃W,W1.alloc (.cells #[.int .i64 0,.slice none 0 0,.int .i64 0,.slice none 0 0,.int .i64 0] 52)=W:=⟨_,rfl⟩
 have hB2:Below W1.heap.size W1 W:=by rw [<-hW];exact (Below.refl _ _).alloc (Nat.le_refl _) _
 have s1:W1.heap.size=w.heap.size+1:=by rw [<-hW1];simp
 have s2:W.heap.size=w.heap.size+1+1:=by rw [<-hW];simp [s1]
 have TR:W.heap[w.heap.size+1]? =some (.cells #[.int .i64 0,.slice none 0 0,.int .i64 0,.slice none 0 0,.int .i64 0] 52):=by rw [<-hW,<-s1];exact heap_alloc_new W1 _
 have hI:=hI1.below hB2
 have h60:=ZA hmb
 have h4:∀i,(mat ms i).length<=4:=fun i=>by
  rcases Nat.lt_or_ge i ms.length with hi | hi
  · exact (Zat ((ZG ms i).1 (ZM hmb hi)).2.2.1).2
  · have:mat ms i=[]:=by simp [mat,List.getD,hi]
    rw [this];simp
 have HB:=Za (Zd hB1 hB2)
 have HI:=Za hI
 have HTR:=Za TR
 have HSZ:=Za s2
 have HMC:=Za (Zla am cm ms W.drew (hI.below (Below.refl _ _).drew).mv h60 h4)
 have HTC:Hid (∀W',Below W.heap.size W W'->Calls Tryz.prog 196 #[.agg #[.int .i64 d,.slice aw ts.length cw]] W' fun e w'=>∃vt,e=.returned (.agg #[.int .i64 d,vt])/\ZdG W'.heap.size w' vt ts/\Below W'.heap.size W' w'):=fun W' L'=>Zlt v aw cw d ts W' ((hI.below L').wv) hok
 have HS:Hid (∀W',Below W.heap.size W W'->W'.cell? ⟨w.heap.size,0,none⟩=some (.int .i64 wd)/\W'.cell? ⟨w.heap.size,1,none⟩=some (.slice am ms.length cm)/\W'.cell? ⟨w.heap.size,2,none⟩=some (.int .i64 d)/\W'.cell? ⟨w.heap.size,3,none⟩=some (.slice aw ts.length cw)/\W'.cell? ⟨w.heap.size,4,none⟩=some (.int .i64 nx)):=fun W' L'=>⟨(hI.below L').c0,(hI.below L').c1,(hI.below L').c2,(hI.below L').c3,(hI.below L').c4⟩
 have BL:=Za ((Below.refl W.heap.size W).drew)
 have HWW:Hid ((w.alloc (.cells #[.int .i64 wd,.slice am ms.length cm,.int .i64 d,.slice aw ts.length cw,.int .i64 nx] 52)).alloc (.cells #[.int .i64 0,.slice none 0 0,.int .i64 0,.slice none 0 0,.int .i64 0] 52)=W):=by show _=_;rw [hW1,hW]
 clear hm hv hB1 hI1 hB2 TR hI s1 s2 hW hW1 hok h60 hmb h4
 go_enter Tryz.func134,Tryz.ntmps134
 go_upto_region 1 with fail
 rw [HWW.out]
 clear HWW
 refine ZR (S:=fun W'=>W'.cell? ⟨w.heap.size,0,none⟩=some (.int .i64 wd)/\W'.cell? ⟨w.heap.size,1,none⟩=some (.slice am ms.length cm)/\W'.cell? ⟨w.heap.size,2,none⟩=some (.int .i64 d)/\W'.cell? ⟨w.heap.size,3,none⟩=some (.slice aw ts.length cw)/\W'.cell? ⟨w.heap.size,4,none⟩=some (.int .i64 nx)) (fuel:=3)
  [0,1,2,3,5,6,8,9] _ rfl (by kernel_rfl) (by kernel_rfl) (by kernel_rfl) (by kernel_rfl) (by kernel_rfl) (by kernel_rfl) (by kernel_rfl) (HS.out _ BL.out) (fun _=>?_)
 iterate 8 (refine⟨_,rfl,?_⟩;apply Exists.intro;refine⟨Or.inl ⟨by rfl,fun w' hw'=>?_⟩,?_⟩;(focus (obtain⟨e1,e2,e3,e4,e5⟩:=hw';first | (go_simp;done) | (go_simp;with_reducible rfl)));simp only [Act.put,List.setIfInBounds_toArray])
 refine Zc 4 (by kernel_rfl) rfl (fun K hK=>?_)
 go_simp
 refine HMC.out.mono ?_
 rintro e w3 ⟨gm,c,ds,rfl,hd1,hd2,L3⟩
 have HD:=Za (And.intro hd1 hd2)
 have HL3:Hid (Below W.heap.size W w3):=Zd BL.out L3
 have HTC3:=Za (HTC.out w3 HL3.out)
 clear hd1 hd2 L3
 refine hK.out _ _ (HS.out _ HL3.out) (fun _=>?_)
 clear hK K
 refine Zc 7 (by kernel_rfl) rfl (fun K hK=>?_)
 go_simp
 refine HTC3.out.mono ?_
 rintro e w4 ⟨vt,rfl,ht4,L4⟩
 obtain⟨ta,tc,rfl,-,-⟩:=ht4.form
 have HC4:Hid (Zlz W.heap.size w4 gm c (.slice ta ts.length tc) ds ts/\Below W.heap.size W w4):=by
  have hlow:=HD.out.1
  exact⟨⟨w3.heap.size,ZaC (base:=W.heap.size) hlow (fun b _ hb=>L4.block b hb),ht4,hlow.lt.2,fun d hd=>(hlow.2.1 d hd).1.lt2.2,HL3.out.size⟩,Zd HL3.out L4⟩
 clear ht4 L4
 refine hK.out _ _ (HS.out _ HC4.out.2) (fun _=>?_)
 clear hK K
 refine Zc 10 (by kernel_rfl) rfl (fun K hK=>?_)
 go_simp
 refine hK.out _ _ (HS.out _ HC4.out.2) (fun _=>?_)
 clear hK K
 refine wpAnyH_done (by kernel_rfl) ?_ _
 simp only [Exit.then]
 have t4:=(HC4.out.2.block _ (Ze HTR.out).2.2.2.2.2.2).trans HTR.out
 obtain⟨r0,r1,r2,r3,r4,rf,hrl⟩:=Ze t4
 have rf0:=rf 0
 have rf1:=rf 1
 have rf2:=rf 2
 have rf3:=rf 3
 have rf4:=rf 4
 have t5:_=some (Obj.cells #[.int .i64 wd,.slice (some ⟨gm,0,none⟩) ms.length c,.int .i64 d,.slice ta ts.length tc,.int .i64 nx] 52):=ZbW t4
 obtain⟨q0,q1,q2,q3,q4,-,-⟩:=Ze t5
 have HT4:=Za t4
 clear t4 t5 rf HTR HS HTC HTC3 HMC
 go_wp2_with fail
 refine NoPanic.normal ?_
 go_wp2_with fail
 refine bodyPost_ret (v:=.agg #[.int .i64 wd,.slice (some ⟨gm,0,none⟩) ms.length c,.int .i64 d,.slice ta ts.length tc,.int .i64 nx]) (by simp [results,Tryz.results134,go_sem,q0,q1,q2,q3,q4]) rfl ?_
 obtain⟨wz,hwz⟩:∃wz,((((w4.setCell ⟨w.heap.size+1,0,none⟩ (.int .i64 wd)).setCell ⟨w.heap.size+1,1,none⟩ (.slice (some ⟨gm,0,none⟩) ms.length c)).setCell ⟨w.heap.size+1,2,none⟩ (.int .i64 d)).setCell ⟨w.heap.size+1,3,none⟩ (.slice ta ts.length tc)).setCell ⟨w.heap.size+1,4,none⟩ (.int .i64 nx)=wz:=⟨_,rfl⟩
 have far:∀b,b≠w.heap.size+1->wz.heap[b]? =w4.heap[b]? :=fun b hb=>by rw [<-hwz];exact Zbw hb
 have hsw:wz.heap.size=w4.heap.size:=by rw [<-hwz];simp [World.setCell]
 have hs3:=HSZ.out
 have BZ:Below w.heap.size w wz:=by
  have ho:w.heap.size<=w.heap.size+1:=by omega
  rw [<-hwz];exact ((((((Zd HB.out HC4.out.2).setCell (p:=⟨w.heap.size+1,0,none⟩) ho _).setCell (p:=⟨w.heap.size+1,1,none⟩) ho _).setCell (p:=⟨w.heap.size+1,2,none⟩) ho _).setCell (p:=⟨w.heap.size+1,3,none⟩) ho _).setCell (p:=⟨w.heap.size+1,4,none⟩) ho _)
 rw [hwz]
 have hcp:=HC4.out.1
 rw [hs3] at hcp
 exact⟨gm,c,_,rfl,⟨ds,HD.out.2,hcp.stay (by omega) (fun b hb _=>far b (by omega))⟩,BZ⟩
theorem Zf0{base:Nat}{w:World}{g c:Nat}{es:List Dm}(h:w.ownsRow base 29 2 (.slice (some ⟨g,0,none⟩) es.length c) es.length (Zu es))(hv:∀i,i<es.length->Zs w (some ⟨(Zk es i).2.1,0,none⟩) (Zk es i).2.2.2):Zq w (some ⟨g,0,none⟩) (Zj es):=
 Or.inr ⟨g,0,rfl,(World.ownsRow.lt h g rfl).2,fun i hi=>by
  rw [Zp] at hi
  rw [Nat.zero_add,ZaS es i hi]
  obtain⟨e0,e1⟩:=ZbY es i hi
  have c0:=World.ownsRow.cellAt h (i*2) (by omega)
  have c1:=World.ownsRow.cellAt h (i*2+1) (by omega)
  exact⟨c0.trans e0,_,_,c1.trans e1,hv i hi⟩⟩
theorem Zhu(ds:List Dm):∀u∈Zu ds,u.oneCell'=true:=by
 induction ds with
 | nil=>intro u hu;cases hu
 | cons d ds ih=>
   intro u hu
   simp only [Zu,List.mem_cons] at hu
   rcases hu with rfl | rfl | hu
   · rfl
   · rfl
   · exact ih u hu
theorem ZdP{base:Nat}{w:World}{g c n:Nat}{ds es:List Dm}(h:w.ownsRow base 29 2 (.slice (some ⟨g,0,none⟩) n c) n (Zu ds))(k:Nat)(hk:k+es.length<=n)(he:∀i,i<es.length->Zk es i=Zk ds (k+i))(hd:ds.length=n):ZV w 2 (some ⟨g,k*2,none⟩) es.length (Zu es):=
 ⟨Zci es,Zhu es,Or.inr ⟨_,rfl,fun j u hu=>by
  rw [Go.WideShapes.add_plain]
  have hj:j<es.length*2:=by
   rcases Nat.lt_or_ge j (es.length*2) with h1 | h1
   · exact h1
   · rw [List.getElem?_eq_none (by rw [Zci];exact h1)] at hu;cases hu
  have hi:j / 2<es.length:=by omega
  obtain⟨a0,a1⟩:=ZbY es (j / 2) hi
  obtain⟨b0,b1⟩:=ZbY ds (k+j / 2) (by omega)
  rw [<-he _ hi] at b0 b1
  rcases Nat.mod_two_eq_zero_or_one j with e | e
  · have ej:j=j / 2*2:=by omega
    rw [<-hu]
    have:=World.ownsRow.cellAt h ((k+j / 2)*2) (by omega)
    rw [b0,<-a0,<-ej] at this
    rw [show k*2+j=(k+j / 2)*2 by omega]
    exact this
  · have ej:j=j / 2*2+1:=by omega
    rw [<-hu]
    have:=World.ownsRow.cellAt h ((k+j / 2)*2+1) (by omega)
    rw [b1,<-a1,<-ej] at this
    rw [show k*2+j=(k+j / 2)*2+1 by omega]
    exact this⟩⟩
theorem ZbL{w w':World}{size m g off:Nat}{news:List Value}(h:ZV w size (some ⟨g,off,none⟩) m news)(e:w'.heap[g]? =w.heap[g]?):ZV w' size (some ⟨g,off,none⟩) m news:=by
 obtain⟨h1,h2,h3 | ⟨ad,e1,h4⟩⟩:=h
 · exact⟨h1,h2,Or.inl h3⟩
 · refine⟨h1,h2,Or.inr ⟨ad,e1,fun j u hu=>?_⟩⟩
   have:=h4 j u hu
   injection e1 with e1
   rw [<-e1,Go.WideShapes.add_plain] at this ⊢
   exact (World.cell?_of_block (a:=⟨g,off+j,none⟩) e).trans this
theorem Zfb{l:List Dm}{i:Nat}(h:i<l.length):Zk l i∈l:=by
 have e:Zk l i=l[i]:=by simp [Zk,List.getD,h]
 rw [e]
 exact List.getElem_mem h
theorem Zfc(ds:List Dm)(k i:Nat)(h:i<k):Zk (ds.take k) i=Zk ds i:=by simp [Zk,List.getD,h]
theorem Zfd(ds:List Dm)(k i:Nat):Zk (ds.drop k) i=Zk ds (k+i):=by simp [Zk,List.getD]
theorem Zob(base D gm c:Nat)(ds:List Dm)(wd d nx id:Int)(vt:Value)(w:World)(hD:w.heap[D]? =some (.cells #[.int .i64 wd,.slice (some ⟨gm,0,none⟩) ds.length c,.int .i64 d,vt,.int .i64 nx] 52))(hr:ZL base w gm c ds)(hn:ds.length<=60)(hDp:∀x∈ds,x.2.1≠D):
 Calls Tryz.prog 140 #[.pointer (some ⟨D,0,none⟩),.int .i64 id] w fun e w'=>(Zv (Zj ds) id<0->e=.returned (.bool false)/\w'=w)/\(0<=Zv (Zj ds) id->e=.returned (.bool true)/\∃g c2,w'.heap[D]? =some (.cells #[.int .i64 wd,.slice (some ⟨g,0,none⟩) (ds.take (Zy (Zj ds) id)++ds.drop (Zy (Zj ds) id+1)).length c2,.int .i64 d,vt,.int .i64 nx] 52)/\(ds.take (Zy (Zj ds) id)++ds.drop (Zy (Zj ds) id+1)).length<=c2/\(∀W':World,w'.heap.size<=W'.heap.size->(∀b,base<=b->b<w'.heap.size->W'.heap[b]? =w'.heap[b]?)->Zq W' (some ⟨g,0,none⟩) (Zj (ds.take (Zy (Zj ds) id)++ds.drop (Zy (Zj ds) id+1))))/\Cgd (fun b=>b=D) w w'):=by
 obtain⟨j0,hj0,hy0,hy1,hy2⟩:=info_parts Tryz.info29
 obtain⟨e0,e1,e2,e3,e4,ef,hDl⟩:=Ze hD
 have hml:=Zp ds
 have HF:=Za (Ze2 (some ⟨gm,0,none⟩) c (Zj ds) id w hr.view (by rw [hml];omega))
 rw [hml] at HF
 have HD:=Za hD
 have HR:=Za hr
 have HCAP:=Za hr.cap
 have hgl:=hr.lt
 have hne:gm≠D:=fun e=>by
  have h1:=World.ownsRow.cellAt hr.1
  obtain⟨g',hh⟩:∃cur,w.heap[gm]? =some (.cells cur 29):=by
   obtain⟨-,⟨x,-⟩ | ⟨g',cap,cur,x,-,hg,-⟩⟩:=hr.1
   · cases x
   · injection x with x1;injection x1 with x1;injection x1 with x1
     exact⟨cur,by rw [x1];exact hg⟩
  rw [e,hD] at hh
  injection hh with hh
  injection hh with _ hh
  exact absurd hh (by decide)
 rcases Int.lt_or_le (Zv (Zj ds) id) 0 with hz | hz
 · have hz':¬0<=Zv (Zj ds) id:=by omega
   obtain⟨z,hzz⟩:∃z,Zv (Zj ds) id=z:=⟨_,rfl⟩
   rw [hzz] at HF hz
   have HZ:=Za hz'
   clear hz' hzz hr hD HD HR HCAP hgl hne ef hml
   go_enter Tryz.func140,Tryz.ntmps140
   go_wp2_with fail
   refine HF.out.mono ?_
   rintro e w1 ⟨rfl,hw1⟩
   subst hw1
   go_wp2_with fail
   go_ret
   exact⟨fun _=>⟨rfl,rfl⟩,fun h=>absurd HZ.out (by omega)⟩
 · obtain⟨hk1,hk2,-⟩:=ZQ hz
   obtain⟨k,hk⟩:∃k,Zy (Zj ds) id=k:=⟨_,rfl⟩
   rw [hml] at hk1
   rw [hk] at hk1 hk2 ⊢
   rw [<-hk2] at HF
   have HZ:=Za (And.intro hz hk)
   have HGL:=Za hgl.2
   have HPL:Hid (∀x∈ds,x.2.1<w.heap.size/\x.2.1≠D):=fun x hx=>⟨(hr.2.1 x hx).1.lt2.2,fun e=>hDp x hx e⟩
   clear hz hk hk2 hml hr hD hgl
   have hkc:k+1<=c:=by have:=HCAP.out;omega
   have hkc0:k<=c:=by omega
   have hkk:(k:Int)<=(k:Int)+1:=by omega
   have hi0:(0:Int)<=(k:Int):=Int.natCast_nonneg _
   have hwr:IntKind.i64.wrap ((k:Int)+1)=(k:Int)+1:=IntWalk.i64_in _ ⟨by omega,by omega⟩
   have hw0:(0:Int)<=(k:Int)+1:=by omega
   have hw1:(k:Int)+1<=(ds.length:Int):=by omega
   have htn:((k:Int)+1).toNat=k+1:=by omega
   have HE:Hid (∀W':World,W'.heap[D]? =w.heap[D]? ->W'.cell? ⟨D,1,none⟩=some (.slice (some ⟨gm,0,none⟩) ds.length c)):=fun W' h=>(World.cell?_of_block (a:=⟨D,1,none⟩) h).trans e1
   have ef1:=ef 1
   have hsrc1:ZV w 2 (some ⟨gm,0,none⟩) (ds.take k).length (Zu (ds.take k)):=by
    have:=ZdP (es:=ds.take k) HR.out.1 0 (by rw [List.length_take];omega) (fun i hi=>by rw [Nat.zero_add];exact Zfc ds k i (by rw [List.length_take] at hi;omega)) rfl
    rw [Nat.zero_mul] at this
    exact this
   have hl1:(ds.take k).length=k:=by rw [List.length_take];omega
   have hl2:(ds.drop (k+1)).length=ds.length-(k+1):=List.length_drop
   rw [hl1] at hsrc1
   have HS1:=Za hsrc1
   have HS2:Hid (ZV w 2 (if c=k+1 then some ⟨gm,0,none⟩ else some ⟨gm,(k+1)*2,none⟩) (ds.length-(k+1)) (Zu (ds.drop (k+1)))):=by
    show ZV _ _ _ _ _
    by_cases hc:c=k+1
    · have hcap:=HCAP.out
      have h0:ds.drop (k+1)=[]:=List.drop_eq_nil_of_le (by omega)
      rw [if_pos hc,h0]
      exact⟨by simp [Zu];omega,by simp [Zu],Or.inl (by omega)⟩
    · rw [if_neg hc,<-hl2]
      exact ZdP (es:=ds.drop (k+1)) HR.out.1 (k+1) (by rw [List.length_drop];omega) (fun i _=>Zfd ds (k+1) i) rfl
   have HLL:=Za (And.intro hl1 hl2)
   clear e2 e3 e4 ef hsrc1 hl1 hl2
   by_cases hc:c=k+1
   · subst hc
     have HS3:Hid (ZV w 2 (some ⟨gm,0,none⟩) (ds.length-(k+1)) (Zu (ds.drop (k+1)))):=by have h:=HS2.out;rw [if_pos rfl] at h;exact h
     clear HS2
     go_enter Tryz.func140,Tryz.ntmps140
     go_wp2_with fail
     refine HF.out.mono ?_
     rintro e w1 ⟨rfl,hw1⟩
     have hw2:=hw1.symm
     subst hw2
     clear HF
     go_wp2_with fail
     clear e0 e1 ef1
     refine ZT (S:=fun W'=>W'.cell? ⟨D,1,none⟩=some (.slice (some ⟨gm,0,none⟩) ds.length (k+1))) (fuel:=5)
      [0,2,3,4,5,6,7,9,10,11,12,13,14,15] _ rfl (by kernel_rfl) (by kernel_rfl) (by kernel_rfl) (by kernel_rfl) (by kernel_rfl) (by kernel_rfl) (by kernel_rfl) (HE.out _ rfl) (fun _=>?_)
     iterate 14
      refine⟨_,rfl,?_⟩
      apply Exists.intro
      refine⟨Or.inl ⟨by rfl,fun w' hw'=>?_⟩,?_⟩
      · first
        | (go_simp;done)
        | (go_simp;with_reducible rfl)
      simp only [Act.put,List.setIfInBounds_toArray]
     refine Zc 1 (by kernel_rfl) rfl (fun K hK=>?_)
     go_simp
     obtain⟨w5,hw5⟩:∃w5,(w.alloc (.cells #[] 29)).drew=w5:=⟨_,rfl⟩
     have L5:Below w.heap.size w w5:=by rw [<-hw5];exact ((Below.refl w.heap.size w).alloc (Nat.le_refl _) _).drew
     have HR5:Hid (w5.ownsRow w.heap.size 29 2 (.slice (some ⟨w.heap.size,0,none⟩) 0 0) 0 []):=by
      have h:(w.alloc (.cells #[] 29)).ownsRow w.heap.size 29 2 (.slice (some ⟨w.heap.size,0,none⟩) 0 0) 0 []:=World.ownsRow_lit w #[] 0 (Nat.le_refl _) (Nat.zero_le _) rfl
      show _
      rw [<-hw5]
      exact h
     have hs5:w5.heap.size=w.heap.size+1:=by rw [<-hw5];simp
     have HL5:=Za L5
     rw [hw5]
     clear hw5 L5
     refine hK.out _ _ (HE.out _ (HL5.out.block D hDl)) (fun _=>?_)
     clear hK K
     refine Zc 8 (by kernel_rfl) rfl (fun K hK=>?_)
     refine Zi w5 rfl (.tmp 15) (.tmp 21) 44 rfl w.heap.size 29 j0 _ 2 32 Tryz.underlying44 hj0 hy0 hy1 hy2 rfl (by omega) w.heap.size 0 0 [] rfl HR5.out (some ⟨gm,0,none⟩) k (k+1) (Zu (ds.take k)) rfl (ZbL HS1.out (HL5.out.block gm HGL.out)) (by unfold maxLen;omega) (by omega) (by omega) w5.heap.size rfl ?_
     intro g6 c6 w6 hown6 hgrow6 hat6 hlt6
     have HR6:=Za hown6
     have hz6:=hgrow6.size
     have HL6:Hid (Below w.heap.size w w6):=HL5.out.grown hgrow6 (by omega) (by intro q hq;cases hq;omega)
     clear hown6 hgrow6
     refine hK.out _ _ (HE.out _ (HL6.out.block D hDl)) (fun _=>?_)
     clear hK K
     refine Zc 16 (by kernel_rfl) rfl (fun K hK=>?_)
     refine Zi w6 rfl (.tmp 22) (.tmp 29) 44 rfl w.heap.size 29 j0 _ 2 32 Tryz.underlying44 hj0 hy0 hy1 hy2 rfl (by omega) g6 (0+k) c6 ([]++Zu (ds.take k)) rfl HR6.out (some ⟨gm,0,none⟩) (ds.length-(k+1)) 0 (Zu (ds.drop (k+1))) rfl (ZbL HS3.out (HL6.out.block gm HGL.out)) (by unfold maxLen;omega) (by omega) (by have:=HL6.out.size;omega) w6.heap.size rfl ?_
     intro g8 c8 w8 hown8 hgrow8 hat8 hlt8
     have hg6:=(World.ownsRow.lt HR6.out g6 rfl).1
     have HL8:Hid (Below w.heap.size w w8):=HL6.out.grown hgrow8 (by have:=HL6.out.size;omega) (by intro q hq;cases hq;omega)
     have HO8:Hid (w8.ownsRow w.heap.size 29 2 (.slice (some ⟨g8,0,none⟩) (k+(ds.length-(k+1))) c8) (k+(ds.length-(k+1))) (Zu (ds.take k++ds.drop (k+1)))):=by
      have h:=hown8
      rw [List.nil_append,<-Zay,Nat.zero_add] at h
      exact h
     clear hown8 hgrow8
     refine hK.out _ _ (HE.out _ (HL8.out.block D hDl)) (fun _=>?_)
     clear hK K
     refine Zc 17 (by kernel_rfl) rfl (fun K hK=>?_)
     go_simp
     refine hK.out _ _ (HE.out _ (HL8.out.block D hDl)) (fun _=>?_)
     clear hK K
     refine Zc 18 (by kernel_rfl) rfl (fun K hK=>?_)
     go_simp
     refine hK.out _ _ (HE.out _ (HL8.out.block D hDl)) (fun _=>?_)
     clear hK K
     refine wpAnyH_done (by kernel_rfl) ?_ _
     simp only [Exit.then]
     have t8:=(HL8.out.block D hDl).trans HD.out
     obtain⟨-,u1,-,-,-,uf,-⟩:=Ze t8
     have uf1:=uf 1
     obtain⟨len8,hlen8⟩:∃n8,k+(ds.length-(k+1))=n8:=⟨_,rfl⟩
     have hlen9:(ds.take k++ds.drop (k+1)).length=len8:=by rw [List.length_append,HLL.out.1,HLL.out.2];omega
     rw [hlen8] at HO8 ⊢
     have HOO:Hid (∀w':World,w'=w8.setCell ⟨D,1,none⟩ (.slice (some ⟨g8,0,none⟩) len8 c8)->∃g c2,w'.heap[D]? =some (.cells #[.int .i64 wd,.slice (some ⟨g,0,none⟩) (ds.take k++ds.drop (k+1)).length c2,.int .i64 d,vt,.int .i64 nx] 52)/\(ds.take k++ds.drop (k+1)).length<=c2/\(∀W':World,w'.heap.size<=W'.heap.size->(∀b,base<=b->b<w'.heap.size->W'.heap[b]? =w'.heap[b]?)->Zq W' (some ⟨g,0,none⟩) (Zj (ds.take k++ds.drop (k+1))))/\Cgd (fun b=>b=D) w w'):=fun w' e=>by
      have hfar:∀b,b≠D->w'.heap[b]? =w8.heap[b]? :=fun b hb=>by rw [e];exact Below.heap_setCell w8 ⟨D,1,none⟩ _ b (fun e=>hb e)
      have hg8:=(World.ownsRow.lt HO8.out g8 rfl)
      have hcap8:len8<=c8:=by
       obtain⟨-,⟨x,-⟩ | ⟨g',cap,cur,x,-,-,hcc,-⟩⟩:=HO8.out
       · cases x
       · injection x with x1 x2 x3;omega
      have hown:w'.ownsRow w.heap.size 29 2 (.slice (some ⟨g8,0,none⟩) len8 c8) len8 (Zu (ds.take k++ds.drop (k+1))):=Za2 HO8.out (fun g eg=>by
       have e':g=g8:=by simpa [Value.ownBlock] using eg.symm
       exact hfar g (by omega))
      rw [hlen9]
      refine⟨g8,c8,by rw [e];exact Zco t8,hcap8,?_,?_⟩
      · intro W' hW1 hW2
        have hbw:=HR.out.lt
        have hz8:w'.heap.size=w8.heap.size:=by rw [e,Zb]
        have hw8:=HL8.out.size
        refine Zf0 (es:=ds.take k++ds.drop (k+1)) (by rw [hlen9];exact Za2 hown (fun g eg=>by
         have e':g=g8:=by simpa [Value.ownBlock] using eg.symm
         exact hW2 g (by omega) (by omega))) (fun i hi=>?_)
        have hmem:Zk (ds.take k++ds.drop (k+1)) i∈ds:=by
         have h1:Zk (ds.take k++ds.drop (k+1)) i∈ds.take k++ds.drop (k+1):=Zfb hi
         rcases List.mem_append.1 h1 with h2 | h2
         · exact List.mem_of_mem_take h2
         · exact List.mem_of_mem_drop h2
        have hrow:=(HR.out.2.1 _ hmem).1
        have hpl:=HPL.out _ hmem
        have hlt2:=hrow.lt2
        exact (hrow.same ((hW2 _ hlt2.1 (by omega)).trans ((hfar _ hpl.2).trans (HL8.out.block _ hpl.1)))).view
      · exact⟨by rw [e];exact HL8.out.os,by rw [e];exact HL8.out.tape,by rw [e];exact HL8.out.output,by rw [e,Zb];exact HL8.out.size,fun b hb hne=>(hfar b hne).trans (HL8.out.block b hb)⟩
     clear t8 uf hlen8 hlen9 HR5 HR6 HL5 HL6 HO8 HE HD HS1 HS3 HLL
     go_wp2_with fail
     refine NoPanic.normal ?_
     go_wp2_with fail
     go_ret
     exact⟨fun h=>absurd h (by have:=HZ.out.1;omega),fun _=>⟨rfl,HOO.out _ rfl⟩⟩
   · have HS3:Hid (ZV w 2 (some ⟨gm,(k+1)*2,none⟩) (ds.length-(k+1)) (Zu (ds.drop (k+1)))):=by have h:=HS2.out;rw [if_neg hc] at h;exact h
     clear HS2
     go_enter Tryz.func140,Tryz.ntmps140
     go_wp2_with fail
     refine HF.out.mono ?_
     rintro e w1 ⟨rfl,hw1⟩
     have hw2:=hw1.symm
     subst hw2
     clear HF
     go_wp2_with fail
     clear e0 e1 ef1
     refine ZT (S:=fun W'=>W'.cell? ⟨D,1,none⟩=some (.slice (some ⟨gm,0,none⟩) ds.length c)) (fuel:=5)
      [0,2,3,4,5,6,7,9,10,11,12,13,14,15] _ rfl (by kernel_rfl) (by kernel_rfl) (by kernel_rfl) (by kernel_rfl) (by kernel_rfl) (by kernel_rfl) (by kernel_rfl) (HE.out _ rfl) (fun _=>?_)
     iterate 14
      refine⟨_,rfl,?_⟩
      apply Exists.intro
      refine⟨Or.inl ⟨by rfl,fun w' hw'=>?_⟩,?_⟩
      · first
        | (go_simp;done)
        | (go_simp;with_reducible rfl)
      simp only [Act.put,List.setIfInBounds_toArray]
     refine Zc 1 (by kernel_rfl) rfl (fun K hK=>?_)
     go_simp
     obtain⟨w5,hw5⟩:∃w5,(w.alloc (.cells #[] 29)).drew=w5:=⟨_,rfl⟩
     have L5:Below w.heap.size w w5:=by rw [<-hw5];exact ((Below.refl w.heap.size w).alloc (Nat.le_refl _) _).drew
     have HR5:Hid (w5.ownsRow w.heap.size 29 2 (.slice (some ⟨w.heap.size,0,none⟩) 0 0) 0 []):=by
      have h:(w.alloc (.cells #[] 29)).ownsRow w.heap.size 29 2 (.slice (some ⟨w.heap.size,0,none⟩) 0 0) 0 []:=World.ownsRow_lit w #[] 0 (Nat.le_refl _) (Nat.zero_le _) rfl
      show _
      rw [<-hw5]
      exact h
     have hs5:w5.heap.size=w.heap.size+1:=by rw [<-hw5];simp
     have HL5:=Za L5
     rw [hw5]
     clear hw5 L5
     refine hK.out _ _ (HE.out _ (HL5.out.block D hDl)) (fun _=>?_)
     clear hK K
     refine Zc 8 (by kernel_rfl) rfl (fun K hK=>?_)
     refine Zi w5 rfl (.tmp 15) (.tmp 21) 44 rfl w.heap.size 29 j0 _ 2 32 Tryz.underlying44 hj0 hy0 hy1 hy2 rfl (by omega) w.heap.size 0 0 [] rfl HR5.out (some ⟨gm,0,none⟩) k c (Zu (ds.take k)) rfl (ZbL HS1.out (HL5.out.block gm HGL.out)) (by unfold maxLen;omega) (by omega) (by omega) w5.heap.size rfl ?_
     intro g6 c6 w6 hown6 hgrow6 hat6 hlt6
     have HR6:=Za hown6
     have hz6:=hgrow6.size
     have HL6:Hid (Below w.heap.size w w6):=HL5.out.grown hgrow6 (by omega) (by intro q hq;cases hq;omega)
     clear hown6 hgrow6
     refine hK.out _ _ (HE.out _ (HL6.out.block D hDl)) (fun _=>?_)
     clear hK K
     refine Zc 16 (by kernel_rfl) rfl (fun K hK=>?_)
     refine Zi w6 rfl (.tmp 22) (.tmp 29) 44 rfl w.heap.size 29 j0 _ 2 32 Tryz.underlying44 hj0 hy0 hy1 hy2 rfl (by omega) g6 (0+k) c6 ([]++Zu (ds.take k)) rfl HR6.out (some ⟨gm,(k+1)*2,none⟩) (ds.length-(k+1)) (c-(k+1)) (Zu (ds.drop (k+1))) rfl (ZbL HS3.out (HL6.out.block gm HGL.out)) (by unfold maxLen;omega) (by omega) (by have:=HL6.out.size;omega) w6.heap.size rfl ?_
     intro g8 c8 w8 hown8 hgrow8 hat8 hlt8
     have hg6:=(World.ownsRow.lt HR6.out g6 rfl).1
     have HL8:Hid (Below w.heap.size w w8):=HL6.out.grown hgrow8 (by have:=HL6.out.size;omega) (by intro q hq;cases hq;omega)
     have HO8:Hid (w8.ownsRow w.heap.size 29 2 (.slice (some ⟨g8,0,none⟩) (k+(ds.length-(k+1))) c8) (k+(ds.length-(k+1))) (Zu (ds.take k++ds.drop (k+1)))):=by
      have h:=hown8
      rw [List.nil_append,<-Zay,Nat.zero_add] at h
      exact h
     clear hown8 hgrow8
     refine hK.out _ _ (HE.out _ (HL8.out.block D hDl)) (fun _=>?_)
     clear hK K
     refine Zc 17 (by kernel_rfl) rfl (fun K hK=>?_)
     go_simp
     refine hK.out _ _ (HE.out _ (HL8.out.block D hDl)) (fun _=>?_)
     clear hK K
     refine Zc 18 (by kernel_rfl) rfl (fun K hK=>?_)
     go_simp
     refine hK.out _ _ (HE.out _ (HL8.out.block D hDl)) (fun _=>?_)
     clear hK K
     refine wpAnyH_done (by kernel_rfl) ?_ _
     simp only [Exit.then]
     have t8:=(HL8.out.block D hDl).trans HD.out
     obtain⟨-,u1,-,-,-,uf,-⟩:=Ze t8
     have uf1:=uf 1
     obtain⟨len8,hlen8⟩:∃n8,k+(ds.length-(k+1))=n8:=⟨_,rfl⟩
     have hlen9:(ds.take k++ds.drop (k+1)).length=len8:=by rw [List.length_append,HLL.out.1,HLL.out.2];omega
     rw [hlen8] at HO8 ⊢
     have HOO:Hid (∀w':World,w'=w8.setCell ⟨D,1,none⟩ (.slice (some ⟨g8,0,none⟩) len8 c8)->∃g c2,w'.heap[D]? =some (.cells #[.int .i64 wd,.slice (some ⟨g,0,none⟩) (ds.take k++ds.drop (k+1)).length c2,.int .i64 d,vt,.int .i64 nx] 52)/\(ds.take k++ds.drop (k+1)).length<=c2/\(∀W':World,w'.heap.size<=W'.heap.size->(∀b,base<=b->b<w'.heap.size->W'.heap[b]? =w'.heap[b]?)->Zq W' (some ⟨g,0,none⟩) (Zj (ds.take k++ds.drop (k+1))))/\Cgd (fun b=>b=D) w w'):=fun w' e=>by
      have hfar:∀b,b≠D->w'.heap[b]? =w8.heap[b]? :=fun b hb=>by rw [e];exact Below.heap_setCell w8 ⟨D,1,none⟩ _ b (fun e=>hb e)
      have hg8:=(World.ownsRow.lt HO8.out g8 rfl)
      have hcap8:len8<=c8:=by
       obtain⟨-,⟨x,-⟩ | ⟨g',cap,cur,x,-,-,hcc,-⟩⟩:=HO8.out
       · cases x
       · injection x with x1 x2 x3;omega
      have hown:w'.ownsRow w.heap.size 29 2 (.slice (some ⟨g8,0,none⟩) len8 c8) len8 (Zu (ds.take k++ds.drop (k+1))):=Za2 HO8.out (fun g eg=>by
       have e':g=g8:=by simpa [Value.ownBlock] using eg.symm
       exact hfar g (by omega))
      rw [hlen9]
      refine⟨g8,c8,by rw [e];exact Zco t8,hcap8,?_,?_⟩
      · intro W' hW1 hW2
        have hbw:=HR.out.lt
        have hz8:w'.heap.size=w8.heap.size:=by rw [e,Zb]
        have hw8:=HL8.out.size
        refine Zf0 (es:=ds.take k++ds.drop (k+1)) (by rw [hlen9];exact Za2 hown (fun g eg=>by
         have e':g=g8:=by simpa [Value.ownBlock] using eg.symm
         exact hW2 g (by omega) (by omega))) (fun i hi=>?_)
        have hmem:Zk (ds.take k++ds.drop (k+1)) i∈ds:=by
         have h1:Zk (ds.take k++ds.drop (k+1)) i∈ds.take k++ds.drop (k+1):=Zfb hi
         rcases List.mem_append.1 h1 with h2 | h2
         · exact List.mem_of_mem_take h2
         · exact List.mem_of_mem_drop h2
        have hrow:=(HR.out.2.1 _ hmem).1
        have hpl:=HPL.out _ hmem
        have hlt2:=hrow.lt2
        exact (hrow.same ((hW2 _ hlt2.1 (by omega)).trans ((hfar _ hpl.2).trans (HL8.out.block _ hpl.1)))).view
      · exact⟨by rw [e];exact HL8.out.os,by rw [e];exact HL8.out.tape,by rw [e];exact HL8.out.output,by rw [e,Zb];exact HL8.out.size,fun b hb hne=>(hfar b hne).trans (HL8.out.block b hb)⟩
     clear t8 uf hlen8 hlen9 HR5 HR6 HL5 HL6 HO8 HE HD HS1 HS3 HLL
     go_wp2_with fail
     refine NoPanic.normal ?_
     go_wp2_with fail
     go_ret
     exact⟨fun h=>absurd h (by have:=HZ.out.1;omega),fun _=>⟨rfl,HOO.out _ rfl⟩⟩
def kpB(wd nx d:Int)(p:List Int)(ts:List Wb):Bool:=okB p && decide ((p.length:Int)=wd) && !decide (nx=1000000) && Zb2 (nx,p) ts d
theorem Zav{base:Nat}{w w':World}{g c:Nat}{xs:List Int}(h:ZF base w g c xs)(e:w'.heap[g]? =w.heap[g]?):ZF base w' g c xs:=Za2 h (fun q hq=>by injection hq with hq;rw [<-hq];exact e)
theorem Z9.step{base:Nat}{w w2:World}{a:Option Addr}{ts:List Wb}(h:Z9 base w a ts)(hs:w.heap.size<=w2.heap.size)(e:∀b,base<=b->b<w.heap.size->w2.heap[b]? =w.heap[b]?):Z9 base w2 a ts:=
 fun w' h1 h2=>h w' (Nat.le_trans hs h1) (fun b hb1 hb2=>(h2 b hb1 (by omega)).trans (e b hb1 hb2))
theorem Zbz{base base':Nat}{w:World}{a:Option Addr}{ts:List Wb}(h:Z9 base w a ts)(hb:base'<=base):Z9 base' w a ts:=
 fun w' h1 h2=>h w' h1 (fun b hb1 hb2=>h2 b (by omega) hb2)
theorem Zf1{base base' X:Nat}{w w2:World}{a:Option Addr}{ts:List Wb}(h:Z9 base w a ts)(hX:X<base)(hb:base'<=base)(_:base'<=X)(hs:w.heap.size<=w2.heap.size)(e:∀b,b≠X->w2.heap[b]? =w.heap[b]?):Z9 base' w2 a ts:=
 Zbz (h.step hs (fun b h1 _=>e b (by omega))) hb
theorem Zcy{base D:Nat}{w w':World}{g c:Nat}{ds:List Dm}(h:ZL base w g c ds)(_:w.heap.size<=w'.heap.size)(e:∀b,base<=b->b<w.heap.size->b≠D->w'.heap[b]? =w.heap[b]?)(hg:g≠D)(hp:∀x∈ds,x.2.1≠D):ZL base w' g c ds:=
 ⟨Zaa h.1 (e g h.lt.1 h.lt.2 hg),fun d hd=>⟨(h.2.1 d hd).1.same (e d.2.1 (h.2.1 d hd).1.lt2.1 (h.2.1 d hd).1.lt2.2 (hp d hd)),(h.2.1 d hd).2⟩,h.2.2⟩
theorem Zoc(base D gm c:Nat)(ds:List Dm)(wd d nx:Int)(va0:Option Addr)(vc0:Nat)(ts:List Wb)(ap:Option Addr)(cp:Nat)(p:List Int)(w:World)(hD:w.heap[D]? =some (.cells #[.int .i64 wd,.slice (some ⟨gm,0,none⟩) ds.length c,.int .i64 d,.slice va0 ts.length vc0,.int .i64 nx] 52))(hr:ZL base w gm c ds)(hv:Zz true w va0 ts)(hp:Zs w ap p)(hpl:p.length<=1048576)(hok:ZZ d ts=true)(hsm:ZaB ts)(hn:ds.length<=60)(hDp:∀x∈ds,x.2.1≠D)(hnb:0<=nx/\nx<=1000000):
 Calls Tryz.prog 135 #[.pointer (some ⟨D,0,none⟩),.slice ap p.length cp] w fun e w'=>(kpB wd nx d p ts=false->e=.returned (.int .i64 (-1))/\Below w.heap.size w w')/\(kpB wd nx d p ts=true->e=.returned (.int .i64 nx)/\∃g c2 va vc,w'.heap[D]? =some (.cells #[.int .i64 wd,.slice (some ⟨g,0,none⟩) (ds.length+1) c2,.int .i64 (Zcg (nx,p) ts d),.slice va (ZaI (nx,p) ts d).length vc,.int .i64 (nx+1)] 52)/\(∀W':World,w'.heap.size<=W'.heap.size->(∀b,base<=b->b<w'.heap.size->b≠D->W'.heap[b]? =w'.heap[b]?)->Zq W' (some ⟨g,0,none⟩) (Zj ds++[(nx,p)]))/\Z9 w.heap.size w' va (ZaI (nx,p) ts d)/\Cgd (fun b=>b=D\/b=gm) w w'):=by
 obtain⟨i0,hi0,hx0,hx1,hx2⟩:=info_parts Tryz.info2
 obtain⟨j0,hj0,hy0,hy1,hy2⟩:=info_parts Tryz.info29
 obtain⟨e0,e1,e2,e3,e4,ef,hDl⟩:=Ze hD
 have HOKP:=Za (sOk ap cp p w hp hpl)
 rcases hkp:okB p with _ | _
 · have HNO:Hid (kpB wd nx d p ts=false):=by show _=_;unfold kpB;rw [hkp];rfl
   rw [hkp] at HOKP
   go_enter Tryz.func135,Tryz.ntmps135
   go_wp2_with fail
   refine HOKP.out.mono ?_
   rintro e W1 ⟨rfl,hW1⟩
   subst hW1
   go_wp2_with fail
   go_ret
   exact⟨fun _=>⟨rfl,Below.refl _ _⟩,fun h=>by rw [HNO.out] at h;cases h⟩
 rw [hkp] at HOKP
 by_cases hlw:¬(p.length:Int)=wd
 · have HNO:Hid (kpB wd nx d p ts=false):=by show _=_;unfold kpB;rw [hkp,decide_eq_false hlw];rfl
   have hne:((p.length:Int) !=wd)=true:=by simp;exact hlw
   go_enter Tryz.func135,Tryz.ntmps135
   go_wp2_with fail
   refine HOKP.out.mono ?_
   rintro e W1 ⟨rfl,hW1⟩
   subst hW1
   go_wp2_with fail
   go_ret
   exact⟨fun _=>⟨rfl,Below.refl _ _⟩,fun h=>by rw [HNO.out] at h;cases h⟩
 replace hlw:(p.length:Int)=wd:=Classical.not_not.1 hlw
 have hnw:((p.length:Int) !=wd)=false:=by simp;exact hlw
 by_cases hnx:nx=1000000
 · have HNO:Hid (kpB wd nx d p ts=false):=by show _=_;unfold kpB;rw [decide_eq_true hnx];simp
   have hne:(nx ==1000000)=true:=by simp;exact hnx
   clear hnx
   go_enter Tryz.func135,Tryz.ntmps135
   go_wp2_with fail
   refine HOKP.out.mono ?_
   rintro e W1 ⟨rfl,hW1⟩
   subst hW1
   go_wp2_with fail
   go_ret
   exact⟨fun _=>⟨rfl,Below.refl _ _⟩,fun h=>by rw [HNO.out] at h;cases h⟩
 have hnn:(nx ==1000000)=false:=by simp;exact hnx
 have HKB:Hid (kpB wd nx d p ts=Zb2 (nx,p) ts d):=by show _=_;unfold kpB;rw [hkp,decide_eq_true hlw,decide_eq_false hnx];rfl
 have hp1:=Zat hkp
 have HPV:=Za hp
 have HV:=Za hv
 have HR:=Za hr
 have HD:=Za hD
 have HDP:=Za hDp
 have HNB:=Za hnb
 have HOK:=Za (And.intro hok hsm)
 have hbw:base<=w.heap.size:=by have:=hr.lt;omega
 have hgm:=hr.lt.2
 have hDg:D≠gm:=fun e=>by
  have h1:=hr.1
  obtain⟨-,⟨h2,-⟩ | ⟨q,cap,cur,h2,-,h3,-⟩⟩:=h1
  · cases h2
  · injection h2 with h2;injection h2 with h2;injection h2 with h2
    rw [<-h2,<-e,hD] at h3
    injection h3 with h3;injection h3 with _ h3;cases h3
 obtain⟨W0,hW0⟩:∃W0,W0=w:=⟨w,rfl⟩
 clear hp hv hr hok hsm hDp hkp hlw hnx hnb
 go_enter Tryz.func135,Tryz.ntmps135
 go_wp2_with fail
 refine HOKP.out.mono ?_
 rintro e W1 ⟨rfl,hW1⟩
 subst hW1
 subst hW0
 clear HOKP
 go_upto_region 3 with fail
 go_cut [5] from 27 to 34 (fun v wx=>∃Mb gp cq,v=.pointer (some ⟨Mb,0,none⟩)/\Two wx Mb (.int .i64 nx) (.slice (some ⟨gp,0,none⟩) p.length cq) 29/\ZF W0.heap.size wx gp cq p/\W0.heap.size<=Mb/\Mb≠gp/\Below W0.heap.size W0 wx)
 case first=>
  have BL0:=Za ((Below.refl W0.heap.size W0).drew)
  have HS0:Hid (∀W',Below W0.heap.size W0 W'->W'.cell? ⟨D,4,none⟩=some (.int .i64 nx)):=fun W' L'=>(L'.cell (p:=⟨D,4,none⟩) hDl).trans e4
  refine Zt (S:=fun W'=>Below W0.heap.size W0 W') (fuel:=5) [0,1,2,3,5] (by kernel_rfl) (by kernel_rfl) (by kernel_rfl) (by kernel_rfl) BL0.out (fun _=>?_)
  iterate 5 (refine⟨_,rfl,?_⟩;apply Exists.intro;refine⟨Or.inl ⟨by rfl,fun w' hw'=>?_⟩,?_⟩;(focus (have e1:=HS0.out w' hw';first | (go_simp;done) | (go_simp;with_reducible rfl)));simp only [Act.put,List.getElem_toArray,List.getElem_cons_succ,List.getElem_cons_zero,List.setIfInBounds_toArray,List.set_cons_zero,List.set_cons_succ])
  obtain⟨wv0,hv0⟩:∃w0,W0.drew=w0:=⟨_,rfl⟩
  have Bwv0:Below W0.heap.size W0 wv0:=by rw [<-hv0];exact BL0.out
  have swv0:W0.heap.size<=wv0.heap.size:=Bwv0.size
  rw [hv0]
  clear hv0
  refine ZD 4 8 (by kernel_rfl) rfl rfl (fun K hK=>?_) (fun K hK=>?_)
  · go_simp
    obtain⟨u1,hu1⟩:∃w0,wv0.alloc (.cells #[] 2)=w0:=⟨_,rfl⟩
    have Lu1:Below wv0.heap.size wv0 u1:=by rw [<-hu1];exact (Below.refl _ _).alloc (Nat.le_refl _) _
    obtain⟨ge,hge⟩:∃q,wv0.heap.size=q:=⟨_,rfl⟩
    have hE:ZF W0.heap.size u1 ge 0 []:=by rw [<-hu1,<-hge];exact ZF.start wv0 _ swv0
    first | rw [hu1] | skip
    first | rw [hge] | skip
    have su1:=Nat.le_trans swv0 Lu1.size
    have lu1:=Lu1.size
    have geV:ge<u1.heap.size:=hE.lt.2
    have Bu1:=Zd Bwv0 Lu1
    refine hK.out _ _ Bu1 (fun _=>?_)
    clear hK K hu1
    refine ZD 6 8 (by kernel_rfl) rfl rfl (fun K hK=>?_) (fun K hK=>?_)
    · skip
      refine Zi u1 rfl (.tmp 31) (.tmp 32) 27 rfl W0.heap.size 2 i0 _ 1 8 Tryz.underlying27 hi0 hx0 hx1 hx2 rfl (by omega) ge 0 0 [] rfl hE ap p.length cp (p.map (Value.int .i64)) rfl (ZY (Zs.next HPV.out Bu1)) (by unfold maxLen;omega) (by omega) su1 u1.heap.size rfl ?_
      intro gp cq u2 hown hgrow hat hlt
      have hp:ZF W0.heap.size u2 gp cq p:=ZF.of hown (by omega) (by simp)
      have lu2:=hgrow.size
      have su2:=Nat.le_trans su1 lu2
      have geW:=hE.lt.1
      have Bu2:Below W0.heap.size W0 u2:=Bu1.grown hgrow su1 (fun q e=>by injection e with e;omega)
      rw [Nat.zero_add]
      refine hK.out _ _ Bu2 (fun _=>?_)
      clear hK K hown hgrow
      refine Zo 2 [7] (by kernel_rfl) (by kernel_rfl) (by kernel_rfl) Bu2 ?_
      iterate 1 (refine⟨_,rfl,?_⟩;apply Exists.intro;refine⟨Or.inl ⟨by rfl,fun w' hw'=>?_⟩,?_⟩;(focus (first | (go_simp;done) | (go_simp;with_reducible rfl)));simp only [Act.put,List.getElem_toArray,List.getElem_cons_succ,List.getElem_cons_zero,List.setIfInBounds_toArray,List.set_cons_zero,List.set_cons_succ])
      refine Zc 8 (by kernel_rfl) rfl (fun K hK=>?_)
      · go_simp
        obtain⟨u3,hu3⟩:∃w0,u2.alloc (.cells #[.int .i64 0,.slice none 0 0] 29)=w0:=⟨_,rfl⟩
        have Lu3:Below u2.heap.size u2 u3:=by rw [<-hu3];exact (Below.refl _ _).alloc (Nat.le_refl _) _
        obtain⟨Mb,hMb⟩:∃q,u2.heap.size=q:=⟨_,rfl⟩
        have hM:Two u3 Mb (.int .i64 0) (.slice none 0 0) 29:=by rw [<-hu3,<-hMb];exact Two.new u2 _ _ _
        first | rw [hu3] | skip
        first | rw [hMb] | skip
        have su3:=Nat.le_trans su2 Lu3.size
        have lu3:=Lu3.size
        have MbV:Mb<u3.heap.size:=hM.lt
        have gpU:=hp.lt.2
        replace hp:=hp.below Lu3
        have Bu3:=Zd Bu2 Lu3
        refine hK.out _ _ Bu3 (fun _=>?_)
        clear hK K hu3
        have x0:=hM.c0
        have x1:=hM.c1
        have xf0:=hM.frozen 0
        have xf1:=hM.frozen 1
        refine Zc 9 (by kernel_rfl) rfl (fun K hK=>?_)
        go_simp
        obtain⟨wz,hwz⟩:∃wz,(u3.setCell ⟨Mb,0,none⟩ (.int .i64 nx)).setCell ⟨Mb,1,none⟩ (.slice (some ⟨gp,0,none⟩) p.length cq)=wz:=⟨_,rfl⟩
        have far:∀b,b≠Mb->wz.heap[b]? =u3.heap[b]? :=fun b hb=>by rw [<-hwz];exact (Below.heap_setCell _ ⟨Mb,1,none⟩ _ b (fun e=>hb e)).trans (Below.heap_setCell _ ⟨Mb,0,none⟩ _ b (fun e=>hb e))
        have hzs:u3.heap.size=wz.heap.size:=by rw [<-hwz,Zb,Zb]
        have hpz:ZF W0.heap.size wz gp cq p:=Zav hp (far gp (by omega))
        have hMz:Two wz Mb (.int .i64 nx) (.slice (some ⟨gp,0,none⟩) p.length cq) 29:=by rw [<-hwz];exact (hM.set0 _).set1 _
        have BZ:Below W0.heap.size W0 wz:=by rw [<-hwz];exact (Bu3.setCell (by show W0.heap.size<=Mb;omega) _).setCell (by show W0.heap.size<=Mb;omega) _
        first | rw [hwz] | skip
        refine hK.out _ _ BZ (fun _=>?_)
        clear hK K hwz x0 x1 xf0 xf1
        refine wpAnyH_done (by kernel_rfl) ?_ _
        refine NoPanic.normal ?_
        try simp only [Exit.then]
        go_wp2_with fail
        go_meet
        exact⟨Mb,gp,cq,rfl,hMz,hpz,by omega,by omega,BZ⟩
    · go_simp
      obtain⟨u2,hu2⟩:∃w0,u1.alloc (.cells #[.int .i64 0,.slice none 0 0] 29)=w0:=⟨_,rfl⟩
      have Lu2:Below u1.heap.size u1 u2:=by rw [<-hu2];exact (Below.refl _ _).alloc (Nat.le_refl _) _
      obtain⟨Mb,hMb⟩:∃q,u1.heap.size=q:=⟨_,rfl⟩
      have hM:Two u2 Mb (.int .i64 0) (.slice none 0 0) 29:=by rw [<-hu2,<-hMb];exact Two.new u1 _ _ _
      first | rw [hu2] | skip
      first | rw [hMb] | skip
      have su2:=Nat.le_trans su1 Lu2.size
      have lu2:=Lu2.size
      have MbV:Mb<u2.heap.size:=hM.lt
      replace hE:=hE.below Lu2
      have Bu2:=Zd Bu1 Lu2
      refine hK.out _ _ Bu2 (fun _=>?_)
      clear hK K hu2
      refine Zc 6 (by kernel_rfl) rfl (fun K hK=>?_)
      · skip
        refine Zi u2 rfl (.tmp 31) (.tmp 32) 27 rfl W0.heap.size 2 i0 _ 1 8 Tryz.underlying27 hi0 hx0 hx1 hx2 rfl (by omega) ge 0 0 [] rfl hE ap p.length cp (p.map (Value.int .i64)) rfl (ZY (Zs.next HPV.out Bu2)) (by unfold maxLen;omega) (by omega) su2 u2.heap.size rfl ?_
        intro gp cq u3 hown hgrow hat hlt
        have hp:ZF W0.heap.size u3 gp cq p:=ZF.of hown (by omega) (by simp)
        have lu3:=hgrow.size
        have su3:=Nat.le_trans su2 lu3
        have geW:=hE.lt.1
        have Bu3:Below W0.heap.size W0 u3:=Bu2.grown hgrow su2 (fun q e=>by injection e with e;omega)
        replace hM:Two u3 Mb (.int .i64 0) (.slice none 0 0) 29:=(hgrow.block Mb hM.lt (fun e=>by injection e with e;omega)).trans hM
        have hMl:=hM.lt
        rw [Nat.zero_add]
        refine hK.out _ _ Bu3 (fun _=>?_)
        clear hK K hown hgrow
        refine Zo 1 [7] (by kernel_rfl) (by kernel_rfl) (by kernel_rfl) Bu3 ?_
        iterate 1 (refine⟨_,rfl,?_⟩;apply Exists.intro;refine⟨Or.inl ⟨by rfl,fun w' hw'=>?_⟩,?_⟩;(focus (first | (go_simp;done) | (go_simp;with_reducible rfl)));simp only [Act.put,List.getElem_toArray,List.getElem_cons_succ,List.getElem_cons_zero,List.setIfInBounds_toArray,List.set_cons_zero,List.set_cons_succ])
        have x0:=hM.c0
        have x1:=hM.c1
        have xf0:=hM.frozen 0
        have xf1:=hM.frozen 1
        refine Zc 9 (by kernel_rfl) rfl (fun K hK=>?_)
        go_simp
        obtain⟨wz,hwz⟩:∃wz,(u3.setCell ⟨Mb,0,none⟩ (.int .i64 nx)).setCell ⟨Mb,1,none⟩ (.slice (some ⟨gp,0,none⟩) p.length cq)=wz:=⟨_,rfl⟩
        have far:∀b,b≠Mb->wz.heap[b]? =u3.heap[b]? :=fun b hb=>by rw [<-hwz];exact (Below.heap_setCell _ ⟨Mb,1,none⟩ _ b (fun e=>hb e)).trans (Below.heap_setCell _ ⟨Mb,0,none⟩ _ b (fun e=>hb e))
        have hzs:u3.heap.size=wz.heap.size:=by rw [<-hwz,Zb,Zb]
        have hpz:ZF W0.heap.size wz gp cq p:=Zav hp (far gp (by omega))
        have hMz:Two wz Mb (.int .i64 nx) (.slice (some ⟨gp,0,none⟩) p.length cq) 29:=by rw [<-hwz];exact (hM.set0 _).set1 _
        have BZ:Below W0.heap.size W0 wz:=by rw [<-hwz];exact (Bu3.setCell (by show W0.heap.size<=Mb;omega) _).setCell (by show W0.heap.size<=Mb;omega) _
        first | rw [hwz] | skip
        refine hK.out _ _ BZ (fun _=>?_)
        clear hK K hwz x0 x1 xf0 xf1
        refine wpAnyH_done (by kernel_rfl) ?_ _
        refine NoPanic.normal ?_
        try simp only [Exit.then]
        go_wp2_with fail
        go_meet
        exact⟨Mb,gp,cq,rfl,hMz,hpz,by omega,by omega,BZ⟩
  · go_simp
    obtain⟨u1,hu1⟩:∃w0,wv0.alloc (.cells #[.int .i64 0,.slice none 0 0] 29)=w0:=⟨_,rfl⟩
    have Lu1:Below wv0.heap.size wv0 u1:=by rw [<-hu1];exact (Below.refl _ _).alloc (Nat.le_refl _) _
    obtain⟨Mb,hMb⟩:∃q,wv0.heap.size=q:=⟨_,rfl⟩
    have hM:Two u1 Mb (.int .i64 0) (.slice none 0 0) 29:=by rw [<-hu1,<-hMb];exact Two.new wv0 _ _ _
    first | rw [hu1] | skip
    first | rw [hMb] | skip
    have su1:=Nat.le_trans swv0 Lu1.size
    have lu1:=Lu1.size
    have MbV:Mb<u1.heap.size:=hM.lt
    have Bu1:=Zd Bwv0 Lu1
    refine hK.out _ _ Bu1 (fun _=>?_)
    clear hK K hu1
    refine Zc 4 (by kernel_rfl) rfl (fun K hK=>?_)
    · go_simp
      obtain⟨u2,hu2⟩:∃w0,u1.alloc (.cells #[] 2)=w0:=⟨_,rfl⟩
      have Lu2:Below u1.heap.size u1 u2:=by rw [<-hu2];exact (Below.refl _ _).alloc (Nat.le_refl _) _
      obtain⟨ge,hge⟩:∃q,u1.heap.size=q:=⟨_,rfl⟩
      have hE:ZF W0.heap.size u2 ge 0 []:=by rw [<-hu2,<-hge];exact ZF.start u1 _ su1
      first | rw [hu2] | skip
      first | rw [hge] | skip
      have su2:=Nat.le_trans su1 Lu2.size
      have lu2:=Lu2.size
      have geV:ge<u2.heap.size:=hE.lt.2
      replace hM:=hM.below Lu2
      have Bu2:=Zd Bu1 Lu2
      refine hK.out _ _ Bu2 (fun _=>?_)
      clear hK K hu2
      refine Zc 6 (by kernel_rfl) rfl (fun K hK=>?_)
      · skip
        refine Zi u2 rfl (.tmp 31) (.tmp 32) 27 rfl W0.heap.size 2 i0 _ 1 8 Tryz.underlying27 hi0 hx0 hx1 hx2 rfl (by omega) ge 0 0 [] rfl hE ap p.length cp (p.map (Value.int .i64)) rfl (ZY (Zs.next HPV.out Bu2)) (by unfold maxLen;omega) (by omega) su2 u2.heap.size rfl ?_
        intro gp cq u3 hown hgrow hat hlt
        have hp:ZF W0.heap.size u3 gp cq p:=ZF.of hown (by omega) (by simp)
        have lu3:=hgrow.size
        have su3:=Nat.le_trans su2 lu3
        have geW:=hE.lt.1
        have Bu3:Below W0.heap.size W0 u3:=Bu2.grown hgrow su2 (fun q e=>by injection e with e;omega)
        replace hM:Two u3 Mb (.int .i64 0) (.slice none 0 0) 29:=(hgrow.block Mb hM.lt (fun e=>by injection e with e;omega)).trans hM
        have hMl:=hM.lt
        rw [Nat.zero_add]
        refine hK.out _ _ Bu3 (fun _=>?_)
        clear hK K hown hgrow
        refine Zo 1 [7] (by kernel_rfl) (by kernel_rfl) (by kernel_rfl) Bu3 ?_
        iterate 1 (refine⟨_,rfl,?_⟩;apply Exists.intro;refine⟨Or.inl ⟨by rfl,fun w' hw'=>?_⟩,?_⟩;(focus (first | (go_simp;done) | (go_simp;with_reducible rfl)));simp only [Act.put,List.getElem_toArray,List.getElem_cons_succ,List.getElem_cons_zero,List.setIfInBounds_toArray,List.set_cons_zero,List.set_cons_succ])
        have x0:=hM.c0
        have x1:=hM.c1
        have xf0:=hM.frozen 0
        have xf1:=hM.frozen 1
        refine Zc 9 (by kernel_rfl) rfl (fun K hK=>?_)
        go_simp
        obtain⟨wz,hwz⟩:∃wz,(u3.setCell ⟨Mb,0,none⟩ (.int .i64 nx)).setCell ⟨Mb,1,none⟩ (.slice (some ⟨gp,0,none⟩) p.length cq)=wz:=⟨_,rfl⟩
        have far:∀b,b≠Mb->wz.heap[b]? =u3.heap[b]? :=fun b hb=>by rw [<-hwz];exact (Below.heap_setCell _ ⟨Mb,1,none⟩ _ b (fun e=>hb e)).trans (Below.heap_setCell _ ⟨Mb,0,none⟩ _ b (fun e=>hb e))
        have hzs:u3.heap.size=wz.heap.size:=by rw [<-hwz,Zb,Zb]
        have hpz:ZF W0.heap.size wz gp cq p:=Zav hp (far gp (by omega))
        have hMz:Two wz Mb (.int .i64 nx) (.slice (some ⟨gp,0,none⟩) p.length cq) 29:=by rw [<-hwz];exact (hM.set0 _).set1 _
        have BZ:Below W0.heap.size W0 wz:=by rw [<-hwz];exact (Bu3.setCell (by show W0.heap.size<=Mb;omega) _).setCell (by show W0.heap.size<=Mb;omega) _
        first | rw [hwz] | skip
        refine hK.out _ _ BZ (fun _=>?_)
        clear hK K hwz x0 x1 xf0 xf1
        refine wpAnyH_done (by kernel_rfl) ?_ _
        refine NoPanic.normal ?_
        try simp only [Exit.then]
        go_wp2_with fail
        go_meet
        exact⟨Mb,gp,cq,rfl,hMz,hpz,by omega,by omega,BZ⟩
 case rest=>
  obtain⟨Mb,gp,cq,rfl,hM,hpr,hMW,hMg,L1⟩:=hcut
  generalize hwc:wc=wo at *
  clear hwc wc
  have hgpW:=hpr.lt
  have hDo:wo.heap[D]? =some (.cells #[.int .i64 wd,.slice (some ⟨gm,0,none⟩) ds.length c,.int .i64 d,.slice va0 ts.length vc0,.int .i64 nx] 52):=(L1.block D hDl).trans hD
  have HDo:=Za hDo
  have HMo:=Za hM
  have HPR:=Za hpr
  have HL1:=Za L1
  have hMl:=hM.lt
  have hW1:=L1.size
  have BLo:=Za ((Below.refl wo.heap.size wo).drew)
  have HSo:Hid (∀W',Below wo.heap.size wo W'->W'.cell? ⟨D,2,none⟩=some (.int .i64 d)/\W'.cell? ⟨D,3,none⟩=some (.slice va0 ts.length vc0)/\W'.cell? ⟨Mb,0,none⟩=some (.int .i64 nx)/\W'.cell? ⟨Mb,1,none⟩=some (.slice (some ⟨gp,0,none⟩) p.length cq)):=fun W' L'=>by
   obtain⟨f0,f1,f2,f3,f4,-,-⟩:=Ze ((L'.block D (by omega)).trans hDo)
   exact⟨f2,f3,(hM.below L').c0,(hM.below L').c1⟩
  obtain⟨LD,hLD⟩:∃L,Zcg (nx,p) ts d=L:=⟨_,rfl⟩
  obtain⟨LT,hLT⟩:∃L,ZaI (nx,p) ts d=L:=⟨_,rfl⟩
  obtain⟨rr,hrr⟩:∃b,Zb2 (nx,p) ts d=b:=⟨_,rfl⟩
  have HCo:Hid (∀W',Below wo.heap.size wo W'->Calls Tryz.prog 110 #[.agg #[.int .i64 d,.slice va0 ts.length vc0],.agg #[.int .i64 nx,.slice (some ⟨gp,0,none⟩) p.length cq]] W' fun e w'=>∃va vc,e=.returned (.tuple #[.agg #[.int .i64 LD,.slice va LT.length vc],.bool rr])/\Z9 W'.heap.size w' va LT/\Below W'.heap.size W' w'):=fun W' L'=>by
   refine (ZeT va0 (some ⟨gp,0,none⟩) vc0 cq d ts (nx,p) W' (HV.out.next (HL1.out.trans (Below.mono L' HL1.out.size))) (hpr.below L').view hpl HOK.out.1 HOK.out.2).mono ?_
   rintro e w' ⟨vt,rfl,⟨S,vm,vl,ht⟩,L2⟩
   obtain⟨a',c',rfl,-⟩:=ht.form
   rw [hLD,hrr]
   rw [hLT] at ht ⊢
   exact⟨a',c',rfl,ht.kept,L2⟩
  have HLX:=Za (And.intro hLD (And.intro hLT hrr))
  clear hM hpr L1 hDo e0 e1 e2 e3 e4 ef hLD hLT hrr
  go_upto_region 4 with fail
  go_cut [6,7] from 27 to 69 (fun v b wx=>∃X va vc,v=.pointer (some ⟨X,0,none⟩)/\b=.bool rr/\Two wx X (.int .i64 LD) (.slice va LT.length vc) 26/\Z9 wo.heap.size wx va LT/\wo.heap.size<=X/\Below wo.heap.size wo wx)
  case first=>
   refine Zt (S:=fun W'=>Below wo.heap.size wo W') (fuel:=7) [0,1,2,3,4] (by kernel_rfl) (by kernel_rfl) (by kernel_rfl) (by kernel_rfl) BLo.out (fun _=>?_)
   iterate 5 (refine⟨_,rfl,?_⟩;apply Exists.intro;refine⟨Or.inl ⟨by rfl,fun w' hw'=>?_⟩,?_⟩;(focus (obtain⟨e1,e2,e3,e4⟩:=HSo.out w' hw';first | (go_simp;done) | (go_simp;with_reducible rfl)));simp only [Act.put,List.getElem_toArray,List.getElem_cons_succ,List.getElem_cons_zero,List.setIfInBounds_toArray,List.set_cons_zero,List.set_cons_succ])
   obtain⟨wv0,hv0⟩:∃w0,wo.drew=w0:=⟨_,rfl⟩
   have B0:Below wo.heap.size wo wv0:=by rw [<-hv0];exact BLo.out
   have s0:wo.heap.size<=wv0.heap.size:=B0.size
   rw [hv0]
   clear hv0
   refine ZD 5 9 (by kernel_rfl) rfl rfl (fun K hK=>?_) (fun K hK=>?_)
   · go_simp
     refine (HCo.out wv0 B0).mono ?_
     rintro e w2 ⟨va,vc,rfl,how,L2⟩
     have LA:=Zd B0 L2
     refine hK.out _ _ LA (fun hS4=>?_)
     clear hK K
     refine Zo 3 [6,7,8] (by kernel_rfl) (by kernel_rfl) (by kernel_rfl) hS4 ?_
     iterate 3 (refine⟨_,rfl,?_⟩;apply Exists.intro;refine⟨Or.inl ⟨by rfl,fun w' hw'=>?_⟩,?_⟩;(focus (first | (go_simp;done) | (go_simp;with_reducible rfl)));simp only [Act.put,List.getElem_toArray,List.getElem_cons_succ,List.getElem_cons_zero,List.setIfInBounds_toArray,List.set_cons_zero,List.set_cons_succ])
     refine Zc 9 (by kernel_rfl) rfl (fun K hK=>?_)
     go_simp
     refine hK.out _ _ (LA.alloc LA.size _) (fun _=>?_)
     clear hK K
     refine Zc 10 (by kernel_rfl) rfl (fun K hK=>?_)
     go_simp
     obtain⟨wz,hwz⟩:∃wz,w2.alloc (.cells #[.int .i64 LD,.slice va LT.length vc] 26)=wz:=⟨_,rfl⟩
     have LZ:Below w2.heap.size w2 wz:=by rw [<-hwz];exact (Below.refl _ _).alloc (Nat.le_refl _) _
     have HLZ:=Za (Zd LA LZ)
     have HTZ:Hid (Two wz w2.heap.size (.int .i64 LD) (.slice va LT.length vc) 26):=by show Two _ _ _ _ _;rw [<-hwz];exact Two.new w2 _ _ _
     have HOZ:Hid (Z9 wo.heap.size wz va LT):=(Zbz how s0).step LZ.size (fun b _ h2=>LZ.block b h2)
     have HFZ:Hid (wo.heap.size<=w2.heap.size):=LA.size
     rw [hwz]
     refine hK.out _ _ HLZ.out (fun hS9=>?_)
     clear hK K hwz how LA L2 LZ
     refine ZB [11] rfl (by kernel_rfl) (by kernel_rfl) (by kernel_rfl) hS9 ?_
     iterate 1 (refine⟨_,rfl,?_⟩;apply Exists.intro;refine⟨Or.inl ⟨by rfl,fun w' hw'=>?_⟩,?_⟩;(focus (first | (go_simp;done) | (go_simp;with_reducible rfl)));simp only [Act.put,List.getElem_toArray,List.getElem_cons_succ,List.getElem_cons_zero,List.setIfInBounds_toArray,List.set_cons_zero,List.set_cons_succ])
     refine NoPanic.normal (NoPanic.normal ?_)
     go_wp2_with fail
     go_meet
     exact⟨_,va,vc,rfl,rfl,HTZ.out,HOZ.out,HFZ.out,HLZ.out⟩
   · go_simp
     obtain⟨Wx,hWx⟩:∃W',wv0.alloc (.cells #[.int .i64 0,.slice none 0 0] 26)=W':=⟨_,rfl⟩
     obtain⟨Xb,hXb⟩:∃q,wv0.heap.size=q:=⟨_,rfl⟩
     have LX:Below wo.heap.size wo Wx:=by rw [<-hWx];exact B0.alloc s0 _
     have hTX:Two Wx Xb (.int .i64 0) (.slice none 0 0) 26:=by rw [<-hWx,<-hXb];exact Two.new wv0 _ _ _
     have hXo:wo.heap.size<=Xb:=by omega
     have hXl:=hTX.lt
     first | rw [hWx] | skip
     first | rw [hXb] | skip
     refine hK.out _ _ LX (fun _=>?_)
     clear hK K hWx
     refine Zc 5 (by kernel_rfl) rfl (fun K hK=>?_)
     go_simp
     refine (HCo.out Wx LX).mono ?_
     rintro e w2 ⟨va,vc,rfl,how,L2⟩
     have LA:=Zd LX L2
     have hT4:=hTX.below L2
     refine hK.out _ _ LA (fun hS4=>?_)
     clear hK K
     refine Zo 2 [6,7,8] (by kernel_rfl) (by kernel_rfl) (by kernel_rfl) hS4 ?_
     iterate 3 (refine⟨_,rfl,?_⟩;apply Exists.intro;refine⟨Or.inl ⟨by rfl,fun w' hw'=>?_⟩,?_⟩;(focus (first | (go_simp;done) | (go_simp;with_reducible rfl)));simp only [Act.put,List.getElem_toArray,List.getElem_cons_succ,List.getElem_cons_zero,List.setIfInBounds_toArray,List.set_cons_zero,List.set_cons_succ])
     have x0:=hT4.c0
     have x1:=hT4.c1
     have xf0:=hT4.frozen 0
     have xf1:=hT4.frozen 1
     refine Zc 10 (by kernel_rfl) rfl (fun K hK=>?_)
     go_simp
     have HLZ:=Za ((LA.setCell (by show wo.heap.size<=Xb;exact hXo) (.int .i64 LD):Below wo.heap.size wo (w2.setCell ⟨Xb,0,none⟩ (.int .i64 LD))).setCell (by show wo.heap.size<=Xb;exact hXo) (.slice va LT.length vc):Below wo.heap.size wo ((w2.setCell ⟨Xb,0,none⟩ (.int .i64 LD)).setCell ⟨Xb,1,none⟩ (.slice va LT.length vc)))
     have HTZ:=Za ((hT4.set0 (.int .i64 LD)).set1 (.slice va LT.length vc))
     have HOZ:Hid (Z9 wo.heap.size ((w2.setCell ⟨Xb,0,none⟩ (.int .i64 LD)).setCell ⟨Xb,1,none⟩ (.slice va LT.length vc)) va LT):=Zf1 how hXl (by omega) hXo (by rw [Zb,Zb];exact Nat.le_refl _) (fun b hb=>(Below.heap_setCell _ ⟨Xb,1,none⟩ _ b hb).trans (Below.heap_setCell _ ⟨Xb,0,none⟩ _ b hb))
     clear how
     generalize (w2.setCell ⟨Xb,0,none⟩ (.int .i64 LD)).setCell ⟨Xb,1,none⟩ (.slice va LT.length vc)=wz at *
     refine hK.out _ _ HLZ.out (fun hS9=>?_)
     clear hK K x0 x1 xf0 xf1 LA L2 hT4
     refine ZB [11] rfl (by kernel_rfl) (by kernel_rfl) (by kernel_rfl) hS9 ?_
     iterate 1 (refine⟨_,rfl,?_⟩;apply Exists.intro;refine⟨Or.inl ⟨by rfl,fun w' hw'=>?_⟩,?_⟩;(focus (first | (go_simp;done) | (go_simp;with_reducible rfl)));simp only [Act.put,List.getElem_toArray,List.getElem_cons_succ,List.getElem_cons_zero,List.setIfInBounds_toArray,List.set_cons_zero,List.set_cons_succ])
     refine NoPanic.normal (NoPanic.normal ?_)
     go_wp2_with fail
     go_meet
     exact⟨Xb,va,vc,rfl,rfl,HTZ.out,HOZ.out,hXo,HLZ.out⟩
  case rest=>
   obtain⟨X,va,vc,rfl,rfl,hX,hKT,hXW,L5⟩:=hcut
   generalize hwc:wc=w5 at *
   clear hwc wc BLo HSo HCo
   have hD5:w5.heap[D]? =some (.cells #[.int .i64 wd,.slice (some ⟨gm,0,none⟩) ds.length c,.int .i64 d,.slice va0 ts.length vc0,.int .i64 nx] 52):=(L5.block D (by omega)).trans HDo.out
   have HL5:Hid (Below W0.heap.size W0 w5):=HL1.out.trans (Below.mono L5 HL1.out.size)
   rcases hrb:rr with _ | _
   · subst hrb
     have HNO:Hid (kpB wd nx d p ts=false):=by show _=_;rw [HKB.out];exact HLX.out.2.2
     clear hX hKT L5 hD5
     go_wp2_with fail
     go_ret
     exact⟨fun _=>⟨rfl,HL5.out⟩,fun h=>by rw [HNO.out] at h;cases h⟩
   · subst hrb
     have HYES:Hid (kpB wd nx d p ts=true):=by show _=_;rw [HKB.out];exact HLX.out.2.2
     obtain⟨f0,f1,f2,f3,f4,ff,hDl5⟩:=Ze hD5
     have ff2:=ff 2
     have ff3:=ff 3
     have x0:=hX.c0
     have x1:=hX.c1
     obtain⟨w7,hw7⟩:∃w7,(w5.setCell ⟨D,2,none⟩ (.int .i64 LD)).setCell ⟨D,3,none⟩ (.slice va LT.length vc)=w7:=⟨_,rfl⟩
     have far7:∀b,b≠D->w7.heap[b]? =w5.heap[b]? :=fun b hb=>by rw [<-hw7];exact (Below.heap_setCell _ ⟨D,3,none⟩ _ b (fun e=>hb e)).trans (Below.heap_setCell _ ⟨D,2,none⟩ _ b (fun e=>hb e))
     have hs7:w5.heap.size=w7.heap.size:=by rw [<-hw7,Zb,Zb]
     have hD7:w7.heap[D]? =some (.cells #[.int .i64 wd,.slice (some ⟨gm,0,none⟩) ds.length c,.int .i64 LD,.slice va LT.length vc,.int .i64 nx] 52):=by
      rw [<-hw7]
      exact heap_setCell_same _ D 3 _ _ _ (heap_setCell_same w5 D 2 _ _ _ hD5)
     have HC7:Hid (Cgd (fun b=>b=D\/b=gm) W0 w7):=⟨by rw [<-hw7];exact HL5.out.os,by rw [<-hw7];exact HL5.out.tape,by rw [<-hw7];exact HL5.out.output,by have:=HL5.out.size;omega,fun b hb hn=>(far7 b (fun e=>hn (Or.inl e))).trans (HL5.out.block b hb)⟩
     have HR7:Hid (ZL base w7 gm c ds):=Zcy (D:=D) (ZaC HR.out (fun b _ h2=>HL5.out.block b h2)) (by omega) (fun b _ _ h3=>far7 b h3) (fun e=>hDg e.symm) (fun x hx e=>HDP.out x hx e)
     have hpr5:=HPR.out.below L5
     have HP7:Hid (ZF base w7 gp cq p):=Zav (hpr5.mono (by omega)) (far7 gp (by omega))
     have hM5:=HMo.out.below L5
     have HM7:Hid (Two w7 Mb (.int .i64 nx) (.slice (some ⟨gp,0,none⟩) p.length cq) 29):=(far7 Mb (by omega)).trans hM5
     have HK7:Hid (Z9 wo.heap.size w7 va LT):=hKT.step (by omega) (fun b h1 _=>far7 b (by omega))
     have hz5:=L5.size
     have HD7:=Za hD7
     clear hX hKT L5 hD5 hpr5 hM5
     go_wp2_with fail
     first | rw [hw7] | skip
     clear f0 f1 f2 f3 f4 ff ff2 ff3 x0 x1 hw7 far7
     have hMl7:=HM7.out.lt
     have hgm7:=HR7.out.lt.2
     have hDl7:D<w7.heap.size:=by omega
     have hMgm:Mb≠gm:=by omega
     have BS:Hid (∀b,b<w7.heap.size->b≠gm->w7.drew.heap[b]? =w7.heap[b]?):=fun _ _ _=>rfl
     have HS7:Hid (∀X:World,(∀b,b<w7.heap.size->b≠gm->X.heap[b]? =w7.heap[b]?)->X.cell? ⟨D,1,none⟩=some (.slice (some ⟨gm,0,none⟩) ds.length c)/\X.cell? ⟨Mb,0,none⟩=some (.int .i64 nx)/\X.cell? ⟨Mb,1,none⟩=some (.slice (some ⟨gp,0,none⟩) p.length cq)):=fun X hX=>by
      have hd:=(hX D hDl7 (fun e=>hDg e)).trans hD7
      obtain⟨_,f1,_,_,_,_,_⟩:=Ze hd
      have hm:Two X Mb (.int .i64 nx) (.slice (some ⟨gp,0,none⟩) p.length cq) 29:=(hX Mb hMl7 hMgm).trans HM7.out
      exact⟨f1,hm.c0,hm.c1⟩
     clear hD7
     refine ZT (S:=fun X=>∀b,b<w7.heap.size->b≠gm->X.heap[b]? =w7.heap[b]?) (fuel:=4) [0,1,2,3,4,5] _ rfl (by kernel_rfl) (by kernel_rfl) (by kernel_rfl) (by kernel_rfl) (by kernel_rfl) (by kernel_rfl) (by kernel_rfl) BS.out (fun hS=>?_)
     simp only [List.pop_toArray,List.dropLast]
     iterate 6 (refine⟨_,rfl,?_⟩;apply Exists.intro;refine⟨Or.inl ⟨by rfl,fun w' hw'=>?_⟩,?_⟩;(focus (obtain⟨e1,e2,e3⟩:=HS7.out w' hw';first | (go_simp;done) | (go_simp;with_reducible rfl)));simp only [Act.put,List.getElem_toArray,List.getElem_cons_succ,List.getElem_cons_zero,List.setIfInBounds_toArray,List.set_cons_zero,List.set_cons_succ])
     refine Zc 6 (by kernel_rfl) rfl (fun K hK=>?_)
     go_simp
     obtain⟨w8,hw8⟩:∃w8,(w7.alloc (.cells #[.int .i64 nx,.slice (some ⟨gp,0,none⟩) p.length cq] 29)).drew=w8:=⟨_,rfl⟩
     have L8:Below w7.heap.size w7 w8:=by rw [<-hw8];exact ((Below.refl _ _).alloc (Nat.le_refl _) _).drew
     have hN8:w8.heap[w7.heap.size]? =some (.cells #[.int .i64 nx,.slice (some ⟨gp,0,none⟩) p.length cq] 29 (0,0)):=by rw [<-hw8];exact heap_alloc_new w7 _
     have hs8:w8.heap.size=w7.heap.size+1:=by rw [<-hw8];exact World.size_alloc w7 _
     have HR8:Hid (ZL base w8 gm c ds):=ZaC HR7.out (fun b _ h2=>L8.block b h2)
     have HP8:=Za (HP7.out.below L8)
     have HN8:=Za hN8
     have hS8:∀b,b<w7.heap.size->b≠gm->w8.heap[b]? =w7.heap[b]? :=fun b h1 _=>L8.block b h1
     first | rw [hw8] | skip
     refine hK.out _ _ hS8 (fun _=>?_)
     clear hK K hw8 hN8
     refine Zc 7 (by kernel_rfl) rfl (fun K hK=>?_)
     refine Zi w8 rfl (.tmp 54) (.tmp 56) 44 rfl base 29 j0 _ 2 32 Tryz.underlying44 hj0 hy0 hy1 hy2 rfl (by omega) gm ds.length c (Zu ds) rfl HR8.out.1 (some ⟨w7.heap.size,0,none⟩) 1 1 [.int .i64 nx,.slice (some ⟨gp,0,none⟩) p.length cq] rfl (Zc9 HN8.out) (by unfold maxLen;omega) (by omega) (by omega) w8.heap.size rfl ?_
     intro g9 c9 w9 hown hgrow hat hlt9
     have HR9:Hid (ZL base w9 g9 c9 (ds++[(nx,gp,cq,p)])):=ZL.snoc HR8.out HP8.out (by omega) (fun x hx=>by have:=(HR.out.2.1 x hx).1.lt2;omega) hown hgrow (by rcases hat with e | e;exact Or.inl e.symm;exact Or.inr e)
     have hS9:∀b,b<w7.heap.size->b≠gm->w9.heap[b]? =w7.heap[b]? :=fun b h1 h2=>(hgrow.block b (by omega) (fun e=>h2 (by injection e))).trans (L8.block b h1)
     have hs9:w7.heap.size<w9.heap.size:=by have:=hgrow.size;omega
     have HC9:Hid (Cgd (fun b=>b=D\/b=gm) W0 w9):=HC7.out.trans ⟨hgrow.os.trans L8.os,hgrow.tape.trans L8.tape,hgrow.output.trans L8.output,by omega,fun b h1 h2=>hS9 b h1 (fun e=>h2 (Or.inr e))⟩
     have HK9:Hid (Z9 wo.heap.size w9 va LT):=HK7.out.step (by omega) (fun b h1 h2=>hS9 b h2 (by omega))
     have hg9:g9≠D:=by rcases hat with e | e <;> omega
     refine hK.out _ _ hS9 (fun _=>?_)
     clear hK K hown hgrow
     refine Zc 8 (by kernel_rfl) rfl (fun K hK=>?_)
     go_simp
     refine hK.out _ _ hS9 (fun _=>?_)
     clear hK K
     refine Zc 9 (by kernel_rfl) rfl (fun K hK=>?_)
     go_simp
     refine hK.out _ _ hS9 (fun _=>?_)
     clear hK K
     refine wpAnyH_done (by kernel_rfl) ?_ _
     simp only [Exit.then]
     have hD9:w9.heap[D]? =some (.cells #[.int .i64 wd,.slice (some ⟨gm,0,none⟩) ds.length c,.int .i64 LD,.slice va LT.length vc,.int .i64 nx] 52):=(hS9 D hDl7 hDg).trans HD7.out
     obtain⟨f0,f1,f2,f3,f4,ff,hDl9⟩:=Ze hD9
     have ff1:=ff 1
     have ff4:=ff 4
     have hm9:Two w9 Mb (.int .i64 nx) (.slice (some ⟨gp,0,none⟩) p.length cq) 29:=(hS9 Mb hMl7 hMgm).trans HM7.out
     have m0:=hm9.c0
     obtain⟨wa,hwa⟩:∃wa,w9.setCell ⟨D,1,none⟩ (.slice (some ⟨g9,0,none⟩) (ds.length+1) c9)=wa:=⟨_,rfl⟩
     have hDa:wa.heap[D]? =some (.cells #[.int .i64 wd,.slice (some ⟨g9,0,none⟩) (ds.length+1) c9,.int .i64 LD,.slice va LT.length vc,.int .i64 nx] 52):=by rw [<-hwa];exact heap_setCell_same w9 D 1 _ _ _ hD9
     have fara:∀b,b≠D->wa.heap[b]? =w9.heap[b]? :=fun b hb=>by rw [<-hwa];exact Below.heap_setCell _ ⟨D,1,none⟩ _ b (fun e=>hb e)
     have hsa:w9.heap.size=wa.heap.size:=by rw [<-hwa,Zb]
     go_wp2_with fail
     refine NoPanic.normal ?_
     first | rw [hwa] | skip
     clear f0 f1 f2 f3 f4 ff ff1 ff4 m0
     obtain⟨q0,q1,q2,q3,q4,qf,hDla⟩:=Ze hDa
     have qf4:=qf 4
     have hma:Two wa Mb (.int .i64 nx) (.slice (some ⟨gp,0,none⟩) p.length cq) 29:=(fara Mb (by omega)).trans hm9
     have m0:=hma.c0
     obtain⟨wb,hwb⟩:∃wb,wa.setCell ⟨D,4,none⟩ (.int .i64 (nx+1))=wb:=⟨_,rfl⟩
     have hDb:wb.heap[D]? =some (.cells #[.int .i64 wd,.slice (some ⟨g9,0,none⟩) (ds.length+1) c9,.int .i64 LD,.slice va LT.length vc,.int .i64 (nx+1)] 52):=by rw [<-hwb];exact heap_setCell_same wa D 4 _ _ _ hDa
     have farb:∀b,b≠D->wb.heap[b]? =w9.heap[b]? :=fun b hb=>by rw [<-hwb];exact (Below.heap_setCell _ ⟨D,4,none⟩ _ b (fun e=>hb e)).trans (fara b hb)
     have hsb:w9.heap.size=wb.heap.size:=by rw [<-hwb,Zb];exact hsa
     have hmb:Two wb Mb (.int .i64 nx) (.slice (some ⟨gp,0,none⟩) p.length cq) 29:=(farb Mb (by omega)).trans hm9
     have m1:=hmb.c0
     have HCb:Hid (Cgd (fun b=>b=D\/b=gm) W0 wb):=HC9.out.trans ⟨by rw [<-hwb,<-hwa];rfl,by rw [<-hwb,<-hwa];rfl,by rw [<-hwb,<-hwa];rfl,by omega,fun b _ h2=>farb b (fun e=>h2 (Or.inl e))⟩
     have HKb:Hid (Z9 wo.heap.size wb va LT):=HK9.out.step (by omega) (fun b h1 _=>farb b (by omega))
     have HRb:Hid (∀W':World,wb.heap.size<=W'.heap.size->(∀b,base<=b->b<wb.heap.size->b≠D->W'.heap[b]? =wb.heap[b]?)->Zq W' (some ⟨g9,0,none⟩) (Zj ds++[(nx,p)])):=fun W' h1 h2=>by
      have h3:=(Zcy (D:=D) HR9.out (w':=W') (by omega) (fun b h4 h5 h6=>(h2 b h4 (by omega) h6).trans (farb b h6)) hg9 (fun x hx e=>by
       rcases List.mem_append.1 hx with hx | hx
       · exact HDP.out x hx e
       · rw [List.mem_singleton.1 hx] at e
         have e':gp=D:=e
         omega)).view
      have h4:Zj (ds++[(nx,gp,cq,p)])=Zj ds++[(nx,p)]:=by simp [Zj]
      rw [h4] at h3
      exact h3
     have HDb:=Za hDb
     clear hDa hDb hma hmb hm9 hD9 fara farb
     have hwr:wrap64 (nx+1)=nx+1:=by have:=HNB.out;unfold wrap64;omega
     go_wp2_with fail
     first | rw [hwr,hwb] | rw [hwb] | skip
     go_wp2_with fail
     go_ret
     refine⟨(fun h=>by rw [HYES.out] at h;cases h),fun _=>⟨rfl,g9,c9,va,vc,?_,HRb.out,?_,HCb.out⟩⟩
     · rw [HLX.out.1,HLX.out.2.1];exact HDb.out
     · rw [HLX.out.2.1];exact Zbz HKb.out (by omega)
theorem sGone(v:Bool)(am aw:Option Addr)(cm cw:Nat)(wd:Int)(ms:List Mk)(d:Int)(ts:List Wb)(nx id:Int)(w:World)(hm:Zq w am ms)(hv:Zz v w aw ts)(hsm:Z5 ms ts)(hst:stB wd ms d ts nx=true)(hmb:Zn ms=true)(hok:ZZ d ts=true):
 Calls Tryz.prog 41 #[.agg #[.int .i64 wd,.slice am ms.length cm,.int .i64 d,.slice aw ts.length cw,.int .i64 nx],.int .i64 id] w fun e w'=>∃x,e=.returned (.tuple #[x,.bool (decide (0<=Zv ms id))])/\StV w' x wd (ZS ms id) d ts nx/\Below w.heap.size w w':=by
 obtain⟨W1,hW1⟩:∃W,w.alloc (.cells #[.int .i64 wd,.slice am ms.length cm,.int .i64 d,.slice aw ts.length cw,.int .i64 nx] 52)=W:=⟨_,rfl⟩
 have hB1:Below w.heap.size w W1:=by rw [<-hW1];exact (Below.refl _ _).alloc (Nat.le_refl _) _
 have hI1:Z7 v W1 w.heap.size am aw cm cw wd ms d ts nx:=by rw [<-hW1];exact Z7.box hm hv
 obtain⟨W,hW⟩:∃W,W1.alloc (.cells #[.int .i64 0,.slice none 0 0,.int .i64 0,.slice none 0 0,.int .i64 0] 52)=W:=⟨_,rfl⟩
 have hB2:Below W1.heap.size W1 W:=by rw [<-hW];exact (Below.refl _ _).alloc (Nat.le_refl _) _
 have s1:W1.heap.size=w.heap.size+1:=by rw [<-hW1];simp
 have s2:W.heap.size=w.heap.size+1+1:=by rw [<-hW];simp [s1]
 have TR:W.heap[w.heap.size+1]? =some (.cells #[.int .i64 0,.slice none 0 0,.int .i64 0,.slice none 0 0,.int .i64 0] 52):=by rw [<-hW,<-s1];exact heap_alloc_new W1 _
 have hI:=hI1.below hB2
 have HB:=Za (Zd hB1 hB2)
 have HI:=Za hI
 have HTR:=Za TR
 have HSZ:=Za s2
 have HC:=Za (ZcS v am aw cm cw wd ms d ts nx W hI.mv hI.wv hsm)
 rw [hst] at HC
 have HCP:=Za (fun (W':World) (L:Below W.heap.size W W')=>ZlA v am aw cm cw wd ms d ts nx W' (hI.below L).mv (hI.below L).wv hmb hok)
 have H60:=Za (ZA hmb)
 have HGC:=Za (fun h=>Zhv (ms:=ms) (id:=id) hmb h)
 have k0:=hI.c0
 have k1:=hI.c1
 have k2:=hI.c2
 have k3:=hI.c3
 have k4:=hI.c4
 have HWW:Hid ((w.alloc (.cells #[.int .i64 wd,.slice am ms.length cm,.int .i64 d,.slice aw ts.length cw,.int .i64 nx] 52)).alloc (.cells #[.int .i64 0,.slice none 0 0,.int .i64 0,.slice none 0 0,.int .i64 0] 52)=W):=by show _=_;rw [hW1,hW]
 clear hm hv hB1 hI1 hB2 TR hI s1 s2 hW hW1 hok hmb hsm hst
 go_enter Tryz.func41,Tryz.ntmps41
 go_upto_region 1 with fail
 rw [HWW.out]
 clear HWW
 go_wp2_with fail
 refine HC.out.mono ?_
 rintro e w1 ⟨rfl,L1⟩
 clear k0 k1 k2 k3 k4
 have hI1:=HI.out.below L1
 have k0:=hI1.c0
 have k1:=hI1.c1
 have k2:=hI1.c2
 have k3:=hI1.c3
 have k4:=hI1.c4
 have HCP1:=Za (HCP.out w1 L1)
 have HL1:=Za L1
 clear hI1 L1
 go_wp2_with fail
 refine HCP1.out.mono ?_
 rintro e w2 ⟨gm,c,vt,rfl,⟨ds,hds,hcp⟩,L2⟩
 clear k0 k1 k2 k3 k4
 obtain⟨B,hdr,hct,hgB,hdB,hbB⟩:=hcp
 obtain⟨ta,tc,rfl,-,-⟩:=hct.form
 have hdl:ds.length=ms.length:=by rw [<-hds,Zp]
 obtain⟨w3,hw3⟩:∃w3,w2.alloc (.cells #[.int .i64 wd,.slice (some ⟨gm,0,none⟩) ms.length c,.int .i64 d,.slice ta ts.length tc,.int .i64 nx] 52)=w3:=⟨_,rfl⟩
 have L3:Below w2.heap.size w2 w3:=by rw [<-hw3];exact (Below.refl _ _).alloc (Nat.le_refl _) _
 have t3:w3.heap[w2.heap.size]? =some (.cells #[.int .i64 wd,.slice (some ⟨gm,0,none⟩) ms.length c,.int .i64 d,.slice ta ts.length tc,.int .i64 nx] 52):=by rw [<-hw3];exact heap_alloc_new w2 _
 have hsz1:=HL1.out.size
 have hs2:=HSZ.out
 have hdr3:ZL (w1.heap.size+1+1) w3 gm c ds:=ZaC hdr (fun b _ hb=>L3.block b hb)
 have hct3:∃S vm vl,TsR false B w3 (.slice ta ts.length tc) ts S vm vl/\∀b,FtR (.slice ta ts.length tc) ts.length S b->b<w2.heap.size:=by
  obtain⟨S,vm,vl,ht⟩:=hct
  exact⟨S,vm,vl,ht.next L3,fun b hb=>(ht.bnd b hb).2⟩
 have hgmlt:=hdr.lt
 have HGG:=Za (Zob (w1.heap.size+1+1) w2.heap.size gm c ds wd d nx id (.slice ta ts.length tc) w3 (by rw [hdl];exact t3) hdr3 (by rw [hdl];exact H60.out) (fun x hx=>by have:=(hdr.2.1 x hx).1.lt2.2;omega))
 rw [hds] at HGG
 have HBW:Hid (Below W.heap.size W w3):=Zd (Zd HL1.out (Below.mono L2 (Nat.le_refl _))) L3
 have HCT:=Za (And.intro hct3 (And.intro hgmlt hbB))
 have HT3:=Za t3
 have HDS:=Za (And.intro hds hdl)
 have HDR:=Za hdr3
 have HW3:=Za hw3
 clear hdr hct hds hgB hdB hdr3 hct3 L2 L3 t3 hw3 hgmlt hdl HCP1 HCP
 go_upto_region 4 with fail
 rw [HW3.out]
 go_wp2_with fail
 refine HGG.out.mono ?_
 rintro e w4 ⟨hno,hyes⟩
 have hX:∃a n c2,e=.returned (.bool (decide (0<=Zv ms id)))/\w4.heap[w2.heap.size]? =some (.cells #[.int .i64 wd,.slice a (ZS ms id).length c2,.int .i64 d,.slice ta ts.length tc,.int .i64 nx] 52)/\n=(ZS ms id).length/\(∀W':World,w4.heap.size<=W'.heap.size->(∀b,w1.heap.size+1+1<=b->b<w4.heap.size->W'.heap[b]? =w4.heap[b]?)->Zq W' a (ZS ms id))/\Cgd (fun b=>b=w2.heap.size) w3 w4:=by
  rcases Int.lt_or_le (Zv ms id) 0 with h | h
  · obtain⟨rfl,hw⟩:=hno h
    have hn:decide (0<=Zv ms id)=false:=by simp;omega
    rw [hn,hw,ZgG h]
    refine⟨some ⟨gm,0,none⟩,ms.length,c,rfl,HT3.out,rfl,fun W' h1 h2=>?_,Cgd.refl _ _⟩
    have:=(ZaC HDR.out (w':=W') h2).view
    rw [HDS.out.1] at this
    exact this
  · obtain⟨rfl,g,c2,h1,h2,h3,h4⟩:=hyes h
    have hn:decide (0<=Zv ms id)=true:=by simp [h]
    have hlen:(ds.take (Zy ms id)++ds.drop (Zy ms id+1)).length=(ZS ms id).length:=by
     rw [<-Zp,Zfe,HDS.out.1,HGC.out h]
    rw [hlen] at h1
    rw [Zfe,HDS.out.1,HGC.out h] at h3
    rw [hn]
    exact⟨_,_,c2,rfl,h1,rfl,h3,h4⟩
 clear hno hyes HGG
 obtain⟨a,n,c2,rfl,t4,rfl,hview,hch⟩:=hX
 have hz4:=hch.2.2.2.1
 have hz3:=HBW.out.size
 have tr4:=(hch.2.2.2.2 (w.heap.size+1) (by omega) (by have:=HCT.out.2.1;omega)).trans ((HBW.out.block (w.heap.size+1) (by omega)).trans HTR.out)
 obtain⟨e0,e1,e2,e3,e4,-,-⟩:=Ze t4
 obtain⟨r0,r1,r2,r3,r4,rf,hrl⟩:=Ze tr4
 have rf0:=rf 0
 have rf1:=rf 1
 have rf2:=rf 2
 have rf3:=rf 3
 have rf4:=rf 4
 have t5:_=some (Obj.cells #[.int .i64 wd,.slice a (ZS ms id).length c2,.int .i64 d,.slice ta ts.length tc,.int .i64 nx] 52):=ZbW tr4
 obtain⟨q0,q1,q2,q3,q4,-,-⟩:=Ze t5
 obtain⟨wz,hwz⟩:∃wz,((((w4.setCell ⟨w.heap.size+1,0,none⟩ (.int .i64 wd)).setCell ⟨w.heap.size+1,1,none⟩ (.slice a (ZS ms id).length c2)).setCell ⟨w.heap.size+1,2,none⟩ (.int .i64 d)).setCell ⟨w.heap.size+1,3,none⟩ (.slice ta ts.length tc)).setCell ⟨w.heap.size+1,4,none⟩ (.int .i64 nx)=wz:=⟨_,rfl⟩
 have far:∀b,b≠w.heap.size+1->wz.heap[b]? =w4.heap[b]? :=fun b hb=>by rw [<-hwz];exact Zbw hb
 have hsw:wz.heap.size=w4.heap.size:=by rw [<-hwz];simp [World.setCell]
 have L4:Below w.heap.size w w4:=(HB.out.trans (Below.mono HBW.out (by omega))).trans (hch.below (by omega) (fun b hb=>by have:=HCT.out.2.1;omega))
 have BZ:Below w.heap.size w wz:=by
  have ho:w.heap.size<=w.heap.size+1:=by omega
  rw [<-hwz];exact (((((L4.setCell (p:=⟨w.heap.size+1,0,none⟩) ho _).setCell (p:=⟨w.heap.size+1,1,none⟩) ho _).setCell (p:=⟨w.heap.size+1,2,none⟩) ho _).setCell (p:=⟨w.heap.size+1,3,none⟩) ho _).setCell (p:=⟨w.heap.size+1,4,none⟩) ho _)
 have hmvz:Zq wz a (ZS ms id):=hview wz (by omega) (fun b hb _=>far b (by omega))
 have hwvz:Zz true wz ta ts:=by
  have hct:=HCT.out.1
  have hfar2:∀b,B<=b->b<w3.heap.size->b≠w2.heap.size->wz.heap[b]? =w3.heap[b]? :=fun b h1 h2 h3=>(far b (by have:=HCT.out.2.2;omega)).trans (hch.2.2.2.2 b h2 h3)
  obtain⟨S,vm,vl,hts,hlt2⟩:=hct
  have hst:=hts.sm (w':=wz) ⟨by omega,fun b hb=>hfar2 b (hts.bnd b hb).1 (hts.bnd b hb).2 (fun e=>by have:=hlt2 b hb;omega)⟩
  obtain⟨a',c',e',-,hv'⟩:=hst.form
  injection e' with e1' e2' e3'
  rw [e1'];exact hv'
 have HZ:Hid (Zq wz a (ZS ms id)/\Zz true wz ta ts/\Below w.heap.size w wz):=⟨hmvz,hwvz,BZ⟩
 have HWZ:=Za hwz
 clear t4 tr4 rf t5 far hsw L4 BZ hmvz hwvz hwz hview hch HDR HT3 HCT HBW HTR HW3
 go_wp2_with fail
 refine bodyPost_ret (v:=.tuple #[.agg #[.int .i64 wd,.slice a (ZS ms id).length c2,.int .i64 d,.slice ta ts.length tc,.int .i64 nx],.bool (decide (0<=Zv ms id))]) (by simp [results,Tryz.results41,go_sem,q0,q1,q2,q3,q4]) rfl ?_
 rw [HWZ.out]
 exact⟨_,rfl,⟨_,_,_,_,rfl,HZ.out.1,HZ.out.2.1⟩,HZ.out.2.2⟩
theorem ZlB(v:Bool)(am aw:Option Addr)(cm cw:Nat)(wd:Int)(ms:List Mk)(d:Int)(ts:List Wb)(nx id:Int)(w:World)(hm:Zq w am ms)(hv:Zz v w aw ts)(hsm:Z5 ms ts)(hst:stB wd ms d ts nx=false):
 Calls Tryz.prog 41 #[.agg #[.int .i64 wd,.slice am ms.length cm,.int .i64 d,.slice aw ts.length cw,.int .i64 nx],.int .i64 id] w fun e w'=>e=.returned (.tuple #[.agg #[.int .i64 0,.slice none 0 0,.int .i64 0,.slice none 0 0,.int .i64 0],.bool false])/\Below w.heap.size w w':=by
 obtain⟨W1,hW1⟩:∃W,w.alloc (.cells #[.int .i64 wd,.slice am ms.length cm,.int .i64 d,.slice aw ts.length cw,.int .i64 nx] 52)=W:=⟨_,rfl⟩
 have hB1:Below w.heap.size w W1:=by rw [<-hW1];exact (Below.refl _ _).alloc (Nat.le_refl _) _
 have hI1:Z7 v W1 w.heap.size am aw cm cw wd ms d ts nx:=by rw [<-hW1];exact Z7.box hm hv
 obtain⟨W,hW⟩:∃W,W1.alloc (.cells #[.int .i64 0,.slice none 0 0,.int .i64 0,.slice none 0 0,.int .i64 0] 52)=W:=⟨_,rfl⟩
 have hB2:Below W1.heap.size W1 W:=by rw [<-hW];exact (Below.refl _ _).alloc (Nat.le_refl _) _
 have s1:W1.heap.size=w.heap.size+1:=by rw [<-hW1];simp
 have TR:W.heap[w.heap.size+1]? =some (.cells #[.int .i64 0,.slice none 0 0,.int .i64 0,.slice none 0 0,.int .i64 0] 52):=by rw [<-hW,<-s1];exact heap_alloc_new W1 _
 have hI:=hI1.below hB2
 have HB:=Za (Zd hB1 hB2)
 have HTR:=Za TR
 have HC:=Za (ZcS v am aw cm cw wd ms d ts nx W hI.mv hI.wv hsm)
 rw [hst] at HC
 have k0:=hI.c0
 have k1:=hI.c1
 have k2:=hI.c2
 have k3:=hI.c3
 have k4:=hI.c4
 have HWW:Hid ((w.alloc (.cells #[.int .i64 wd,.slice am ms.length cm,.int .i64 d,.slice aw ts.length cw,.int .i64 nx] 52)).alloc (.cells #[.int .i64 0,.slice none 0 0,.int .i64 0,.slice none 0 0,.int .i64 0] 52)=W):=by show _=_;rw [hW1,hW]
 clear hm hv hB1 hI1 hB2 TR hI s1 hW hW1 hsm hst
 go_enter Tryz.func41,Tryz.ntmps41
 go_upto_region 1 with fail
 rw [HWW.out]
 clear HWW
 go_wp2_with fail
 refine HC.out.mono ?_
 rintro e w1 ⟨rfl,L1⟩
 obtain⟨r0,r1,r2,r3,r4,rf,hrl⟩:=Ze ((L1.block _ (Ze HTR.out).2.2.2.2.2.2).trans HTR.out)
 have rf0:=rf 0
 have rf1:=rf 1
 have rf2:=rf 2
 have rf3:=rf 3
 have rf4:=rf 4
 have HB1:=Za (Zd HB.out L1)
 clear L1 rf k0 k1 k2 k3 k4
 go_wp2_with fail
 refine bodyPost_ret (v:=.tuple #[.agg #[.int .i64 0,.slice none 0 0,.int .i64 0,.slice none 0 0,.int .i64 0],.bool false]) (by simp [results,Tryz.results41,go_sem,r0,r1,r2,r3,r4]) rfl ?_
 have ho:w.heap.size<=w.heap.size+1:=by omega
 exact⟨rfl,(((((HB1.out.setCell (p:=⟨w.heap.size+1,0,none⟩) ho _).setCell (p:=⟨w.heap.size+1,1,none⟩) ho _).setCell (p:=⟨w.heap.size+1,2,none⟩) ho _).setCell (p:=⟨w.heap.size+1,3,none⟩) ho _).setCell (p:=⟨w.heap.size+1,4,none⟩) ho _)⟩
structure DRV(base:Nat)(w:World)(ag:Option Addr)(c:Nat)(og:Option Nat)(ds:List Dm):Prop where
 row:w.ownsRow base 29 2 (.slice ag ds.length c) ds.length (Zu ds)
 own:(Value.slice ag ds.length c).ownBlock=og
 rows:∀d∈ds,Row base w d.2.1 d.2.2.1 d.2.2.2/\og≠some d.2.1
 rise:ds.Pairwise (fun d e=>d.2.1<e.2.1)
theorem DRV.lt{base:Nat}{w:World}{ag:Option Addr}{c:Nat}{og:Option Nat}{ds:List Dm}(h:DRV base w ag c og ds):∀b,og=some b->b<w.heap.size:=fun b e=>(World.ownsRow.lt h.row b (h.own.trans e)).2
theorem DRV.ge{base:Nat}{w:World}{ag:Option Addr}{c:Nat}{og:Option Nat}{ds:List Dm}(h:DRV base w ag c og ds):∀b,og=some b->base<=b:=fun b e=>(World.ownsRow.lt h.row b (h.own.trans e)).1
theorem DRV.nil(base:Nat)(w:World):DRV base w none 0 none []:=⟨⟨rfl,Or.inl ⟨rfl,rfl⟩⟩,rfl,fun d hd=>(by cases hd),List.Pairwise.nil⟩
theorem ZL.drv{base:Nat}{w:World}{g c:Nat}{ds:List Dm}(h:ZL base w g c ds):DRV base w (some ⟨g,0,none⟩) c (some g) ds:=⟨h.1,rfl,fun d hd=>⟨(h.2.1 d hd).1,fun e=>(h.2.1 d hd).2 (by injection e with e;exact e.symm)⟩,h.2.2⟩
theorem DRV.cases{base:Nat}{w:World}{ag:Option Addr}{c:Nat}{og:Option Nat}{ds:List Dm}(h:DRV base w ag c og ds):(ag=none/\c=0/\og=none/\ds=[])\/∃g,ag=some ⟨g,0,none⟩/\og=some g/\ZL base w g c ds:=by
 obtain⟨h1,h2 | ⟨g,cap,cur,e,h3⟩⟩:=h.row
 · obtain⟨e,h2⟩:=h2
   injection e with e1 e2 e3
   subst e1;subst e3
   exact Or.inl ⟨rfl,rfl,h.own.symm,List.length_eq_zero_iff.1 h2⟩
 · have e':=e
   injection e with e1 e2 e3
   subst e1;subst e3
   have ho:og=some g:=h.own.symm
   exact Or.inr ⟨g,rfl,ho,h.row,fun d hd=>⟨(h.rows d hd).1,fun e=>(h.rows d hd).2 (by rw [ho,e])⟩,h.rise⟩
theorem DRV.cap{base:Nat}{w:World}{ag:Option Addr}{c:Nat}{og:Option Nat}{ds:List Dm}(h:DRV base w ag c og ds):ds.length<=c:=by
 rcases h.cases with ⟨-,rfl,-,rfl⟩ | ⟨g,-,-,h⟩
 · exact Nat.le_refl _
 · exact h.cap
theorem DRV.view{base:Nat}{w:World}{ag:Option Addr}{c:Nat}{og:Option Nat}{ds:List Dm}(h:DRV base w ag c og ds):Zq w ag (Zj ds):=by
 rcases h.cases with ⟨rfl,-,-,rfl⟩ | ⟨g,rfl,-,h⟩
 · exact Or.inl rfl
 · exact h.view
theorem DRV.noD{base D:Nat}{w:World}{ag:Option Addr}{c:Nat}{og:Option Nat}{ds:List Dm}{cs:Array Value}{t:TypeId}(h:DRV base w ag c og ds)(hD:w.heap[D]? =some (.cells cs t))(ht:t≠29):og≠some D:=fun e=>by
 rcases h.cases with ⟨-,-,ho,-⟩ | ⟨g,-,ho,h⟩
 · rw [ho] at e;cases e
 · rw [ho] at e
   injection e with e
   obtain⟨-,⟨h2,-⟩ | ⟨q,cap,cur,h2,-,h3,-⟩⟩:=h.1
   · cases h2
   · injection h2 with h2;injection h2 with h2;injection h2 with h2
     rw [<-h2,e,hD] at h3
     injection h3 with h3;injection h3 with _ h3
     exact ht h3
theorem Zhw{base:Nat}{w w':World}{ag:Option Addr}{c:Nat}{og:Option Nat}{ds:List Dm}(h:DRV base w ag c og ds)(eg:∀b,og=some b->w'.heap[b]? =w.heap[b]?)(ep:∀d∈ds,w'.heap[d.2.1]? =w.heap[d.2.1]?):DRV base w' ag c og ds:=
 ⟨Za2 h.row (fun g e=>eg g (h.own.symm.trans e)),h.own,fun d hd=>⟨Za2 (h.rows d hd).1 (fun q e=>by
  have e':some d.2.1=some q:=e
  injection e' with e'
  rw [<-e'];exact ep d hd),(h.rows d hd).2⟩,h.rise⟩
theorem ZdJ{base:Nat}{w w':World}{ag:Option Addr}{c:Nat}{og:Option Nat}{ds:List Dm}(h:DRV base w ag c og ds)(e:∀b,base<=b->b<w.heap.size->w'.heap[b]? =w.heap[b]?):DRV base w' ag c og ds:=
 Zhw h (fun b hb=>e b (h.ge b hb) (h.lt b hb)) (fun d hd=>e _ (h.rows d hd).1.lt2.1 (h.rows d hd).1.lt2.2)
theorem Zjh{base D:Nat}{w w':World}{ag:Option Addr}{c:Nat}{og:Option Nat}{ds:List Dm}(h:DRV base w ag c og ds)(e:∀b,base<=b->b<w.heap.size->b≠D->w'.heap[b]? =w.heap[b]?)(hg:og≠some D)(hp:∀x∈ds,x.2.1≠D):DRV base w' ag c og ds:=
 Zhw h (fun b hb=>e b (h.ge b hb) (h.lt b hb) (fun q=>hg (by rw [hb,q]))) (fun d hd=>e _ (h.rows d hd).1.lt2.1 (h.rows d hd).1.lt2.2 (hp d hd))
theorem DRV.snoc{base:Nat}{w w':World}{ag:Option Addr}{c gg cc b cp:Nat}{og:Option Nat}{id:Int}{xs:List Int}{ds:List Dm}(h:DRV base w ag c og ds)
 (hrow:Row base w b cp xs) (hbg:og≠some b) (hlast:∀d∈ds,d.2.1<b)
 (hown:w'.ownsRow base 29 2 (.slice (some ⟨gg,0,none⟩) (ds.length+1) cc) (ds.length+1) (Zu ds++[.int .i64 id,.slice (some ⟨b,0,none⟩) xs.length cp]))
 (hg:w.grownBy w' og) (hgg:og=some gg\/gg=w.heap.size):ZL base w' gg cc (ds++[(id,b,cp,xs)]):=by
 have hnew:∀d:Dm,Row base w d.2.1 d.2.2.1 d.2.2.2->og≠some d.2.1->Row base w' d.2.1 d.2.2.1 d.2.2.2/\d.2.1≠gg:=fun d hd hne=>
  ⟨World.ownsRow.kept hd hg (Or.inr (by intro e;exact hne e.symm)),by
   have:=hd.lt2
   rcases hgg with e | e
   · intro q;exact hne (by rw [e,q])
   · rw [e];omega⟩
 refine⟨?_,fun d hd=>?_,?_⟩
 · rw [Zay,List.length_append];exact hown
 · rcases List.mem_append.1 hd with hd | hd
   · exact hnew d (h.rows d hd).1 (h.rows d hd).2
   · rw [List.mem_singleton.1 hd];exact hnew (id,b,cp,xs) hrow hbg
 · rw [List.pairwise_append]
   exact⟨h.rise,by simp,fun d hd e he=>by rw [List.mem_singleton.1 he];exact hlast d hd⟩
theorem Zhx{base base2:Nat}{w w':World}{ag:Option Addr}{c gg cc:Nat}{og:Option Nat}{ds es:List Dm}(h:DRV base w ag c og ds)(hs:es.Sublist ds)(hown:w'.ownsRow base2 29 2 (.slice (some ⟨gg,0,none⟩) es.length cc) es.length (Zu es))(hb:base<=base2)(hg:w.heap.size<=gg)(e:∀d∈ds,w'.heap[d.2.1]? =w.heap[d.2.1]?):ZL base w' gg cc es:=
 ⟨⟨hown.1,hown.2.imp id fun ⟨g,cap,cur,h1,h2,h3⟩=>⟨g,cap,cur,h1,Nat.le_trans hb h2,h3⟩⟩,fun d hd=>⟨Za2 (h.rows d (hs.subset hd)).1 (fun q e'=>by
  have e'':some d.2.1=some q:=e'
  injection e'' with e''
  rw [<-e''];exact e d (hs.subset hd)),by have:=(h.rows d (hs.subset hd)).1.lt2;omega⟩,h.rise.sublist hs⟩
theorem ZnR(base D c:Nat)(ag:Option Addr)(og:Option Nat)(ds:List Dm)(wd d nx:Int)(va0:Option Addr)(vc0:Nat)(ts:List Wb)(ap:Option Addr)(cp:Nat)(p:List Int)(w:World)(hD:w.heap[D]? =some (.cells #[.int .i64 wd,.slice ag ds.length c,.int .i64 d,.slice va0 ts.length vc0,.int .i64 nx] 52))(hr:DRV base w ag c og ds)(hb0:base<=w.heap.size)(hv:Zz true w va0 ts)(hp:Zs w ap p)(hpl:p.length<=1048576)(hok:ZZ d ts=true)(hsm:ZaB ts)(hn:ds.length<=60)(hDp:∀x∈ds,x.2.1≠D)(hnb:0<=nx/\nx<=1000000):
 Calls Tryz.prog 135 #[.pointer (some ⟨D,0,none⟩),.slice ap p.length cp] w fun e w'=>(kpB wd nx d p ts=false->e=.returned (.int .i64 (-1))/\Below w.heap.size w w')/\(kpB wd nx d p ts=true->e=.returned (.int .i64 nx)/\∃g c2 va vc,w'.heap[D]? =some (.cells #[.int .i64 wd,.slice (some ⟨g,0,none⟩) (ds.length+1) c2,.int .i64 (Zcg (nx,p) ts d),.slice va (ZaI (nx,p) ts d).length vc,.int .i64 (nx+1)] 52)/\(∃gp' cq',ZL base w' g c2 (ds++[(nx,gp',cq',p)])/\(∀x∈ds++[(nx,gp',cq',p)],x.2.1≠D))/\Z9 w.heap.size w' va (ZaI (nx,p) ts d)/\Cgd (fun b=>b=D\/og=some b) w w'):=by
 obtain⟨i0,hi0,hx0,hx1,hx2⟩:=info_parts Tryz.info2
 obtain⟨j0,hj0,hy0,hy1,hy2⟩:=info_parts Tryz.info29
 obtain⟨e0,e1,e2,e3,e4,ef,hDl⟩:=Ze hD
 have HOKP:=Za (sOk ap cp p w hp hpl)
 rcases hkp:okB p with _ | _
 · have HNO:Hid (kpB wd nx d p ts=false):=by show _=_;unfold kpB;rw [hkp];rfl
   rw [hkp] at HOKP
   go_enter Tryz.func135,Tryz.ntmps135
   go_wp2_with fail
   refine HOKP.out.mono ?_
   rintro e W1 ⟨rfl,hW1⟩
   subst hW1
   go_wp2_with fail
   go_ret
   exact⟨fun _=>⟨rfl,Below.refl _ _⟩,fun h=>by rw [HNO.out] at h;cases h⟩
 rw [hkp] at HOKP
 by_cases hlw:¬(p.length:Int)=wd
 · have HNO:Hid (kpB wd nx d p ts=false):=by show _=_;unfold kpB;rw [hkp,decide_eq_false hlw];rfl
   have hne:((p.length:Int) !=wd)=true:=by simp;exact hlw
   go_enter Tryz.func135,Tryz.ntmps135
   go_wp2_with fail
   refine HOKP.out.mono ?_
   rintro e W1 ⟨rfl,hW1⟩
   subst hW1
   go_wp2_with fail
   go_ret
   exact⟨fun _=>⟨rfl,Below.refl _ _⟩,fun h=>by rw [HNO.out] at h;cases h⟩
 replace hlw:(p.length:Int)=wd:=Classical.not_not.1 hlw
 have hnw:((p.length:Int) !=wd)=false:=by simp;exact hlw
 by_cases hnx:nx=1000000
 · have HNO:Hid (kpB wd nx d p ts=false):=by show _=_;unfold kpB;rw [decide_eq_true hnx];simp
   have hne:(nx ==1000000)=true:=by simp;exact hnx
   clear hnx
   go_enter Tryz.func135,Tryz.ntmps135
   go_wp2_with fail
   refine HOKP.out.mono ?_
   rintro e W1 ⟨rfl,hW1⟩
   subst hW1
   go_wp2_with fail
   go_ret
   exact⟨fun _=>⟨rfl,Below.refl _ _⟩,fun h=>by rw [HNO.out] at h;cases h⟩
 have hnn:(nx ==1000000)=false:=by simp;exact hnx
 have HKB:Hid (kpB wd nx d p ts=Zb2 (nx,p) ts d):=by show _=_;unfold kpB;rw [hkp,decide_eq_true hlw,decide_eq_false hnx];rfl
 have hp1:=Zat hkp
 have HPV:=Za hp
 have HV:=Za hv
 have HR:=Za hr
 have HD:=Za hD
 have HDP:=Za hDp
 have HNB:=Za hnb
 have HOK:=Za (And.intro hok hsm)
 have hbw:=hb0
 have hgm:∀b,og=some b->b<w.heap.size:=hr.lt
 have hDg:og≠some D:=hr.noD hD (by decide)
 obtain⟨W0,hW0⟩:∃W0,W0=w:=⟨w,rfl⟩
 clear hp hv hr hok hsm hDp hkp hlw hnx hnb hb0
 go_enter Tryz.func135,Tryz.ntmps135
 go_wp2_with fail
 refine HOKP.out.mono ?_
 rintro e W1 ⟨rfl,hW1⟩
 subst hW1
 subst hW0
 clear HOKP
 go_upto_region 3 with fail
 go_cut [5] from 27 to 34 (fun v wx=>∃Mb gp cq,v=.pointer (some ⟨Mb,0,none⟩)/\Two wx Mb (.int .i64 nx) (.slice (some ⟨gp,0,none⟩) p.length cq) 29/\ZF W0.heap.size wx gp cq p/\W0.heap.size<=Mb/\Mb≠gp/\Below W0.heap.size W0 wx)
 case first=>
  have BL0:=Za ((Below.refl W0.heap.size W0).drew)
  have HS0:Hid (∀W',Below W0.heap.size W0 W'->W'.cell? ⟨D,4,none⟩=some (.int .i64 nx)):=fun W' L'=>(L'.cell (p:=⟨D,4,none⟩) hDl).trans e4
  refine Zt (S:=fun W'=>Below W0.heap.size W0 W') (fuel:=5) [0,1,2,3,5] (by kernel_rfl) (by kernel_rfl) (by kernel_rfl) (by kernel_rfl) BL0.out (fun _=>?_)
  iterate 5 (refine⟨_,rfl,?_⟩;apply Exists.intro;refine⟨Or.inl ⟨by rfl,fun w' hw'=>?_⟩,?_⟩;(focus (have e1:=HS0.out w' hw';first | (go_simp;done) | (go_simp;with_reducible rfl)));simp only [Act.put,List.getElem_toArray,List.getElem_cons_succ,List.getElem_cons_zero,List.setIfInBounds_toArray,List.set_cons_zero,List.set_cons_succ])
  obtain⟨wv0,hv0⟩:∃w0,W0.drew=w0:=⟨_,rfl⟩
  have Bwv0:Below W0.heap.size W0 wv0:=by rw [<-hv0];exact BL0.out
  have swv0:W0.heap.size<=wv0.heap.size:=Bwv0.size
  rw [hv0]
  clear hv0
  refine ZD 4 8 (by kernel_rfl) rfl rfl (fun K hK=>?_) (fun K hK=>?_)
  · go_simp
    obtain⟨u1,hu1⟩:∃w0,wv0.alloc (.cells #[] 2)=w0:=⟨_,rfl⟩
    have Lu1:Below wv0.heap.size wv0 u1:=by rw [<-hu1];exact (Below.refl _ _).alloc (Nat.le_refl _) _
    obtain⟨ge,hge⟩:∃q,wv0.heap.size=q:=⟨_,rfl⟩
    have hE:ZF W0.heap.size u1 ge 0 []:=by rw [<-hu1,<-hge];exact ZF.start wv0 _ swv0
    first | rw [hu1] | skip
    first | rw [hge] | skip
    have su1:=Nat.le_trans swv0 Lu1.size
    have lu1:=Lu1.size
    have geV:ge<u1.heap.size:=hE.lt.2
    have Bu1:=Zd Bwv0 Lu1
    refine hK.out _ _ Bu1 (fun _=>?_)
    clear hK K hu1
    refine ZD 6 8 (by kernel_rfl) rfl rfl (fun K hK=>?_) (fun K hK=>?_)
    · skip
      refine Zi u1 rfl (.tmp 31) (.tmp 32) 27 rfl W0.heap.size 2 i0 _ 1 8 Tryz.underlying27 hi0 hx0 hx1 hx2 rfl (by omega) ge 0 0 [] rfl hE ap p.length cp (p.map (Value.int .i64)) rfl (ZY (Zs.next HPV.out Bu1)) (by unfold maxLen;omega) (by omega) su1 u1.heap.size rfl ?_
      intro gp cq u2 hown hgrow hat hlt
      have hp:ZF W0.heap.size u2 gp cq p:=ZF.of hown (by omega) (by simp)
      have lu2:=hgrow.size
      have su2:=Nat.le_trans su1 lu2
      have geW:=hE.lt.1
      have Bu2:Below W0.heap.size W0 u2:=Bu1.grown hgrow su1 (fun q e=>by injection e with e;omega)
      rw [Nat.zero_add]
      refine hK.out _ _ Bu2 (fun _=>?_)
      clear hK K hown hgrow
      refine Zo 2 [7] (by kernel_rfl) (by kernel_rfl) (by kernel_rfl) Bu2 ?_
      iterate 1 (refine⟨_,rfl,?_⟩;apply Exists.intro;refine⟨Or.inl ⟨by rfl,fun w' hw'=>?_⟩,?_⟩;(focus (first | (go_simp;done) | (go_simp;with_reducible rfl)));simp only [Act.put,List.getElem_toArray,List.getElem_cons_succ,List.getElem_cons_zero,List.setIfInBounds_toArray,List.set_cons_zero,List.set_cons_succ])
      refine Zc 8 (by kernel_rfl) rfl (fun K hK=>?_)
      · go_simp
        obtain⟨u3,hu3⟩:∃w0,u2.alloc (.cells #[.int .i64 0,.slice none 0 0] 29)=w0:=⟨_,rfl⟩
        have Lu3:Below u2.heap.size u2 u3:=by rw [<-hu3];exact (Below.refl _ _).alloc (Nat.le_refl _) _
        obtain⟨Mb,hMb⟩:∃q,u2.heap.size=q:=⟨_,rfl⟩
        have hM:Two u3 Mb (.int .i64 0) (.slice none 0 0) 29:=by rw [<-hu3,<-hMb];exact Two.new u2 _ _ _
        first | rw [hu3] | skip
        first | rw [hMb] | skip
        have su3:=Nat.le_trans su2 Lu3.size
        have lu3:=Lu3.size
        have MbV:Mb<u3.heap.size:=hM.lt
        have gpU:=hp.lt.2
        replace hp:=hp.below Lu3
        have Bu3:=Zd Bu2 Lu3
        refine hK.out _ _ Bu3 (fun _=>?_)
        clear hK K hu3
        have x0:=hM.c0
        have x1:=hM.c1
        have xf0:=hM.frozen 0
        have xf1:=hM.frozen 1
        refine Zc 9 (by kernel_rfl) rfl (fun K hK=>?_)
        go_simp
        obtain⟨wz,hwz⟩:∃wz,(u3.setCell ⟨Mb,0,none⟩ (.int .i64 nx)).setCell ⟨Mb,1,none⟩ (.slice (some ⟨gp,0,none⟩) p.length cq)=wz:=⟨_,rfl⟩
        have far:∀b,b≠Mb->wz.heap[b]? =u3.heap[b]? :=fun b hb=>by rw [<-hwz];exact (Below.heap_setCell _ ⟨Mb,1,none⟩ _ b (fun e=>hb e)).trans (Below.heap_setCell _ ⟨Mb,0,none⟩ _ b (fun e=>hb e))
        have hzs:u3.heap.size=wz.heap.size:=by rw [<-hwz,Zb,Zb]
        have hpz:ZF W0.heap.size wz gp cq p:=Zav hp (far gp (by omega))
        have hMz:Two wz Mb (.int .i64 nx) (.slice (some ⟨gp,0,none⟩) p.length cq) 29:=by rw [<-hwz];exact (hM.set0 _).set1 _
        have BZ:Below W0.heap.size W0 wz:=by rw [<-hwz];exact (Bu3.setCell (by show W0.heap.size<=Mb;omega) _).setCell (by show W0.heap.size<=Mb;omega) _
        first | rw [hwz] | skip
        refine hK.out _ _ BZ (fun _=>?_)
        clear hK K hwz x0 x1 xf0 xf1
        refine wpAnyH_done (by kernel_rfl) ?_ _
        refine NoPanic.normal ?_
        try simp only [Exit.then]
        go_wp2_with fail
        go_meet
        exact⟨Mb,gp,cq,rfl,hMz,hpz,by omega,by omega,BZ⟩
    · go_simp
      obtain⟨u2,hu2⟩:∃w0,u1.alloc (.cells #[.int .i64 0,.slice none 0 0] 29)=w0:=⟨_,rfl⟩
      have Lu2:Below u1.heap.size u1 u2:=by rw [<-hu2];exact (Below.refl _ _).alloc (Nat.le_refl _) _
      obtain⟨Mb,hMb⟩:∃q,u1.heap.size=q:=⟨_,rfl⟩
      have hM:Two u2 Mb (.int .i64 0) (.slice none 0 0) 29:=by rw [<-hu2,<-hMb];exact Two.new u1 _ _ _
      first | rw [hu2] | skip
      first | rw [hMb] | skip
      have su2:=Nat.le_trans su1 Lu2.size
      have lu2:=Lu2.size
      have MbV:Mb<u2.heap.size:=hM.lt
      replace hE:=hE.below Lu2
      have Bu2:=Zd Bu1 Lu2
      refine hK.out _ _ Bu2 (fun _=>?_)
      clear hK K hu2
      refine Zc 6 (by kernel_rfl) rfl (fun K hK=>?_)
      · skip
        refine Zi u2 rfl (.tmp 31) (.tmp 32) 27 rfl W0.heap.size 2 i0 _ 1 8 Tryz.underlying27 hi0 hx0 hx1 hx2 rfl (by omega) ge 0 0 [] rfl hE ap p.length cp (p.map (Value.int .i64)) rfl (ZY (Zs.next HPV.out Bu2)) (by unfold maxLen;omega) (by omega) su2 u2.heap.size rfl ?_
        intro gp cq u3 hown hgrow hat hlt
        have hp:ZF W0.heap.size u3 gp cq p:=ZF.of hown (by omega) (by simp)
        have lu3:=hgrow.size
        have su3:=Nat.le_trans su2 lu3
        have geW:=hE.lt.1
        have Bu3:Below W0.heap.size W0 u3:=Bu2.grown hgrow su2 (fun q e=>by injection e with e;omega)
        replace hM:Two u3 Mb (.int .i64 0) (.slice none 0 0) 29:=(hgrow.block Mb hM.lt (fun e=>by injection e with e;omega)).trans hM
        have hMl:=hM.lt
        rw [Nat.zero_add]
        refine hK.out _ _ Bu3 (fun _=>?_)
        clear hK K hown hgrow
        refine Zo 1 [7] (by kernel_rfl) (by kernel_rfl) (by kernel_rfl) Bu3 ?_
        iterate 1 (refine⟨_,rfl,?_⟩;apply Exists.intro;refine⟨Or.inl ⟨by rfl,fun w' hw'=>?_⟩,?_⟩;(focus (first | (go_simp;done) | (go_simp;with_reducible rfl)));simp only [Act.put,List.getElem_toArray,List.getElem_cons_succ,List.getElem_cons_zero,List.setIfInBounds_toArray,List.set_cons_zero,List.set_cons_succ])
        have x0:=hM.c0
        have x1:=hM.c1
        have xf0:=hM.frozen 0
        have xf1:=hM.frozen 1
        refine Zc 9 (by kernel_rfl) rfl (fun K hK=>?_)
        go_simp
        obtain⟨wz,hwz⟩:∃wz,(u3.setCell ⟨Mb,0,none⟩ (.int .i64 nx)).setCell ⟨Mb,1,none⟩ (.slice (some ⟨gp,0,none⟩) p.length cq)=wz:=⟨_,rfl⟩
        have far:∀b,b≠Mb->wz.heap[b]? =u3.heap[b]? :=fun b hb=>by rw [<-hwz];exact (Below.heap_setCell _ ⟨Mb,1,none⟩ _ b (fun e=>hb e)).trans (Below.heap_setCell _ ⟨Mb,0,none⟩ _ b (fun e=>hb e))
        have hzs:u3.heap.size=wz.heap.size:=by rw [<-hwz,Zb,Zb]
        have hpz:ZF W0.heap.size wz gp cq p:=Zav hp (far gp (by omega))
        have hMz:Two wz Mb (.int .i64 nx) (.slice (some ⟨gp,0,none⟩) p.length cq) 29:=by rw [<-hwz];exact (hM.set0 _).set1 _
        have BZ:Below W0.heap.size W0 wz:=by rw [<-hwz];exact (Bu3.setCell (by show W0.heap.size<=Mb;omega) _).setCell (by show W0.heap.size<=Mb;omega) _
        first | rw [hwz] | skip
        refine hK.out _ _ BZ (fun _=>?_)
        clear hK K hwz x0 x1 xf0 xf1
        refine wpAnyH_done (by kernel_rfl) ?_ _
        refine NoPanic.normal ?_
        try simp only [Exit.then]
        go_wp2_with fail
        go_meet
        exact⟨Mb,gp,cq,rfl,hMz,hpz,by omega,by omega,BZ⟩
  · go_simp
    obtain⟨u1,hu1⟩:∃w0,wv0.alloc (.cells #[.int .i64 0,.slice none 0 0] 29)=w0:=⟨_,rfl⟩
    have Lu1:Below wv0.heap.size wv0 u1:=by rw [<-hu1];exact (Below.refl _ _).alloc (Nat.le_refl _) _
    obtain⟨Mb,hMb⟩:∃q,wv0.heap.size=q:=⟨_,rfl⟩
    have hM:Two u1 Mb (.int .i64 0) (.slice none 0 0) 29:=by rw [<-hu1,<-hMb];exact Two.new wv0 _ _ _
    first | rw [hu1] | skip
    first | rw [hMb] | skip
    have su1:=Nat.le_trans swv0 Lu1.size
    have lu1:=Lu1.size
    have MbV:Mb<u1.heap.size:=hM.lt
    have Bu1:=Zd Bwv0 Lu1
    refine hK.out _ _ Bu1 (fun _=>?_)
    clear hK K hu1
    refine Zc 4 (by kernel_rfl) rfl (fun K hK=>?_)
    · go_simp
      obtain⟨u2,hu2⟩:∃w0,u1.alloc (.cells #[] 2)=w0:=⟨_,rfl⟩
      have Lu2:Below u1.heap.size u1 u2:=by rw [<-hu2];exact (Below.refl _ _).alloc (Nat.le_refl _) _
      obtain⟨ge,hge⟩:∃q,u1.heap.size=q:=⟨_,rfl⟩
      have hE:ZF W0.heap.size u2 ge 0 []:=by rw [<-hu2,<-hge];exact ZF.start u1 _ su1
      first | rw [hu2] | skip
      first | rw [hge] | skip
      have su2:=Nat.le_trans su1 Lu2.size
      have lu2:=Lu2.size
      have geV:ge<u2.heap.size:=hE.lt.2
      replace hM:=hM.below Lu2
      have Bu2:=Zd Bu1 Lu2
      refine hK.out _ _ Bu2 (fun _=>?_)
      clear hK K hu2
      refine Zc 6 (by kernel_rfl) rfl (fun K hK=>?_)
      · skip
        refine Zi u2 rfl (.tmp 31) (.tmp 32) 27 rfl W0.heap.size 2 i0 _ 1 8 Tryz.underlying27 hi0 hx0 hx1 hx2 rfl (by omega) ge 0 0 [] rfl hE ap p.length cp (p.map (Value.int .i64)) rfl (ZY (Zs.next HPV.out Bu2)) (by unfold maxLen;omega) (by omega) su2 u2.heap.size rfl ?_
        intro gp cq u3 hown hgrow hat hlt
        have hp:ZF W0.heap.size u3 gp cq p:=ZF.of hown (by omega) (by simp)
        have lu3:=hgrow.size
        have su3:=Nat.le_trans su2 lu3
        have geW:=hE.lt.1
        have Bu3:Below W0.heap.size W0 u3:=Bu2.grown hgrow su2 (fun q e=>by injection e with e;omega)
        replace hM:Two u3 Mb (.int .i64 0) (.slice none 0 0) 29:=(hgrow.block Mb hM.lt (fun e=>by injection e with e;omega)).trans hM
        have hMl:=hM.lt
        rw [Nat.zero_add]
        refine hK.out _ _ Bu3 (fun _=>?_)
        clear hK K hown hgrow
        refine Zo 1 [7] (by kernel_rfl) (by kernel_rfl) (by kernel_rfl) Bu3 ?_
        iterate 1 (refine⟨_,rfl,?_⟩;apply Exists.intro;refine⟨Or.inl ⟨by rfl,fun w' hw'=>?_⟩,?_⟩;(focus (first | (go_simp;done) | (go_simp;with_reducible rfl)));simp only [Act.put,List.getElem_toArray,List.getElem_cons_succ,List.getElem_cons_zero,List.setIfInBounds_toArray,List.set_cons_zero,List.set_cons_succ])
        have x0:=hM.c0
        have x1:=hM.c1
        have xf0:=hM.frozen 0
        have xf1:=hM.frozen 1
        refine Zc 9 (by kernel_rfl) rfl (fun K hK=>?_)
        go_simp
        obtain⟨wz,hwz⟩:∃wz,(u3.setCell ⟨Mb,0,none⟩ (.int .i64 nx)).setCell ⟨Mb,1,none⟩ (.slice (some ⟨gp,0,none⟩) p.length cq)=wz:=⟨_,rfl⟩
        have far:∀b,b≠Mb->wz.heap[b]? =u3.heap[b]? :=fun b hb=>by rw [<-hwz];exact (Below.heap_setCell _ ⟨Mb,1,none⟩ _ b (fun e=>hb e)).trans (Below.heap_setCell _ ⟨Mb,0,none⟩ _ b (fun e=>hb e))
        have hzs:u3.heap.size=wz.heap.size:=by rw [<-hwz,Zb,Zb]
        have hpz:ZF W0.heap.size wz gp cq p:=Zav hp (far gp (by omega))
        have hMz:Two wz Mb (.int .i64 nx) (.slice (some ⟨gp,0,none⟩) p.length cq) 29:=by rw [<-hwz];exact (hM.set0 _).set1 _
        have BZ:Below W0.heap.size W0 wz:=by rw [<-hwz];exact (Bu3.setCell (by show W0.heap.size<=Mb;omega) _).setCell (by show W0.heap.size<=Mb;omega) _
        first | rw [hwz] | skip
        refine hK.out _ _ BZ (fun _=>?_)
        clear hK K hwz x0 x1 xf0 xf1
        refine wpAnyH_done (by kernel_rfl) ?_ _
        refine NoPanic.normal ?_
        try simp only [Exit.then]
        go_wp2_with fail
        go_meet
        exact⟨Mb,gp,cq,rfl,hMz,hpz,by omega,by omega,BZ⟩
 case rest=>
  obtain⟨Mb,gp,cq,rfl,hM,hpr,hMW,hMg,L1⟩:=hcut
  generalize hwc:wc=wo at *
  clear hwc wc
  have hgpW:=hpr.lt
  have hDo:wo.heap[D]? =some (.cells #[.int .i64 wd,.slice ag ds.length c,.int .i64 d,.slice va0 ts.length vc0,.int .i64 nx] 52):=(L1.block D hDl).trans hD
  have HDo:=Za hDo
  have HMo:=Za hM
  have HPR:=Za hpr
  have HL1:=Za L1
  have hMl:=hM.lt
  have hW1:=L1.size
  have BLo:=Za ((Below.refl wo.heap.size wo).drew)
  have HSo:Hid (∀W',Below wo.heap.size wo W'->W'.cell? ⟨D,2,none⟩=some (.int .i64 d)/\W'.cell? ⟨D,3,none⟩=some (.slice va0 ts.length vc0)/\W'.cell? ⟨Mb,0,none⟩=some (.int .i64 nx)/\W'.cell? ⟨Mb,1,none⟩=some (.slice (some ⟨gp,0,none⟩) p.length cq)):=fun W' L'=>by
   obtain⟨f0,f1,f2,f3,f4,-,-⟩:=Ze ((L'.block D (by omega)).trans hDo)
   exact⟨f2,f3,(hM.below L').c0,(hM.below L').c1⟩
  obtain⟨LD,hLD⟩:∃L,Zcg (nx,p) ts d=L:=⟨_,rfl⟩
  obtain⟨LT,hLT⟩:∃L,ZaI (nx,p) ts d=L:=⟨_,rfl⟩
  obtain⟨rr,hrr⟩:∃b,Zb2 (nx,p) ts d=b:=⟨_,rfl⟩
  have HCo:Hid (∀W',Below wo.heap.size wo W'->Calls Tryz.prog 110 #[.agg #[.int .i64 d,.slice va0 ts.length vc0],.agg #[.int .i64 nx,.slice (some ⟨gp,0,none⟩) p.length cq]] W' fun e w'=>∃va vc,e=.returned (.tuple #[.agg #[.int .i64 LD,.slice va LT.length vc],.bool rr])/\Z9 W'.heap.size w' va LT/\Below W'.heap.size W' w'):=fun W' L'=>by
   refine (ZeT va0 (some ⟨gp,0,none⟩) vc0 cq d ts (nx,p) W' (HV.out.next (HL1.out.trans (Below.mono L' HL1.out.size))) (hpr.below L').view hpl HOK.out.1 HOK.out.2).mono ?_
   rintro e w' ⟨vt,rfl,⟨S,vm,vl,ht⟩,L2⟩
   obtain⟨a',c',rfl,-⟩:=ht.form
   rw [hLD,hrr]
   rw [hLT] at ht ⊢
   exact⟨a',c',rfl,ht.kept,L2⟩
  have HLX:=Za (And.intro hLD (And.intro hLT hrr))
  clear hM hpr L1 hDo e0 e1 e2 e3 e4 ef hLD hLT hrr
  go_upto_region 4 with fail
  go_cut [6,7] from 27 to 69 (fun v b wx=>∃X va vc,v=.pointer (some ⟨X,0,none⟩)/\b=.bool rr/\Two wx X (.int .i64 LD) (.slice va LT.length vc) 26/\Z9 wo.heap.size wx va LT/\wo.heap.size<=X/\Below wo.heap.size wo wx)
  case first=>
   refine Zt (S:=fun W'=>Below wo.heap.size wo W') (fuel:=7) [0,1,2,3,4] (by kernel_rfl) (by kernel_rfl) (by kernel_rfl) (by kernel_rfl) BLo.out (fun _=>?_)
   iterate 5 (refine⟨_,rfl,?_⟩;apply Exists.intro;refine⟨Or.inl ⟨by rfl,fun w' hw'=>?_⟩,?_⟩;(focus (obtain⟨e1,e2,e3,e4⟩:=HSo.out w' hw';first | (go_simp;done) | (go_simp;with_reducible rfl)));simp only [Act.put,List.getElem_toArray,List.getElem_cons_succ,List.getElem_cons_zero,List.setIfInBounds_toArray,List.set_cons_zero,List.set_cons_succ])
   obtain⟨wv0,hv0⟩:∃w0,wo.drew=w0:=⟨_,rfl⟩
   have B0:Below wo.heap.size wo wv0:=by rw [<-hv0];exact BLo.out
   have s0:wo.heap.size<=wv0.heap.size:=B0.size
   rw [hv0]
   clear hv0
   refine ZD 5 9 (by kernel_rfl) rfl rfl (fun K hK=>?_) (fun K hK=>?_)
   · go_simp
     refine (HCo.out wv0 B0).mono ?_
     rintro e w2 ⟨va,vc,rfl,how,L2⟩
     have LA:=Zd B0 L2
     refine hK.out _ _ LA (fun hS4=>?_)
     clear hK K
     refine Zo 3 [6,7,8] (by kernel_rfl) (by kernel_rfl) (by kernel_rfl) hS4 ?_
     iterate 3 (refine⟨_,rfl,?_⟩;apply Exists.intro;refine⟨Or.inl ⟨by rfl,fun w' hw'=>?_⟩,?_⟩;(focus (first | (go_simp;done) | (go_simp;with_reducible rfl)));simp only [Act.put,List.getElem_toArray,List.getElem_cons_succ,List.getElem_cons_zero,List.setIfInBounds_toArray,List.set_cons_zero,List.set_cons_succ])
     refine Zc 9 (by kernel_rfl) rfl (fun K hK=>?_)
     go_simp
     refine hK.out _ _ (LA.alloc LA.size _) (fun _=>?_)
     clear hK K
     refine Zc 10 (by kernel_rfl) rfl (fun K hK=>?_)
     go_simp
     obtain⟨wz,hwz⟩:∃wz,w2.alloc (.cells #[.int .i64 LD,.slice va LT.length vc] 26)=wz:=⟨_,rfl⟩
     have LZ:Below w2.heap.size w2 wz:=by rw [<-hwz];exact (Below.refl _ _).alloc (Nat.le_refl _) _
     have HLZ:=Za (Zd LA LZ)
     have HTZ:Hid (Two wz w2.heap.size (.int .i64 LD) (.slice va LT.length vc) 26):=by show Two _ _ _ _ _;rw [<-hwz];exact Two.new w2 _ _ _
     have HOZ:Hid (Z9 wo.heap.size wz va LT):=(Zbz how s0).step LZ.size (fun b _ h2=>LZ.block b h2)
     have HFZ:Hid (wo.heap.size<=w2.heap.size):=LA.size
     rw [hwz]
     refine hK.out _ _ HLZ.out (fun hS9=>?_)
     clear hK K hwz how LA L2 LZ
     refine ZB [11] rfl (by kernel_rfl) (by kernel_rfl) (by kernel_rfl) hS9 ?_
     iterate 1 (refine⟨_,rfl,?_⟩;apply Exists.intro;refine⟨Or.inl ⟨by rfl,fun w' hw'=>?_⟩,?_⟩;(focus (first | (go_simp;done) | (go_simp;with_reducible rfl)));simp only [Act.put,List.getElem_toArray,List.getElem_cons_succ,List.getElem_cons_zero,List.setIfInBounds_toArray,List.set_cons_zero,List.set_cons_succ])
     refine NoPanic.normal (NoPanic.normal ?_)
     go_wp2_with fail
     go_meet
     exact⟨_,va,vc,rfl,rfl,HTZ.out,HOZ.out,HFZ.out,HLZ.out⟩
   · go_simp
     obtain⟨Wx,hWx⟩:∃W',wv0.alloc (.cells #[.int .i64 0,.slice none 0 0] 26)=W':=⟨_,rfl⟩
     obtain⟨Xb,hXb⟩:∃q,wv0.heap.size=q:=⟨_,rfl⟩
     have LX:Below wo.heap.size wo Wx:=by rw [<-hWx];exact B0.alloc s0 _
     have hTX:Two Wx Xb (.int .i64 0) (.slice none 0 0) 26:=by rw [<-hWx,<-hXb];exact Two.new wv0 _ _ _
     have hXo:wo.heap.size<=Xb:=by omega
     have hXl:=hTX.lt
     first | rw [hWx] | skip
     first | rw [hXb] | skip
     refine hK.out _ _ LX (fun _=>?_)
     clear hK K hWx
     refine Zc 5 (by kernel_rfl) rfl (fun K hK=>?_)
     go_simp
     refine (HCo.out Wx LX).mono ?_
     rintro e w2 ⟨va,vc,rfl,how,L2⟩
     have LA:=Zd LX L2
     have hT4:=hTX.below L2
     refine hK.out _ _ LA (fun hS4=>?_)
     clear hK K
     refine Zo 2 [6,7,8] (by kernel_rfl) (by kernel_rfl) (by kernel_rfl) hS4 ?_
     iterate 3 (refine⟨_,rfl,?_⟩;apply Exists.intro;refine⟨Or.inl ⟨by rfl,fun w' hw'=>?_⟩,?_⟩;(focus (first | (go_simp;done) | (go_simp;with_reducible rfl)));simp only [Act.put,List.getElem_toArray,List.getElem_cons_succ,List.getElem_cons_zero,List.setIfInBounds_toArray,List.set_cons_zero,List.set_cons_succ])
     have x0:=hT4.c0
     have x1:=hT4.c1
     have xf0:=hT4.frozen 0
     have xf1:=hT4.frozen 1
     refine Zc 10 (by kernel_rfl) rfl (fun K hK=>?_)
     go_simp
     have HLZ:=Za ((LA.setCell (by show wo.heap.size<=Xb;exact hXo) (.int .i64 LD):Below wo.heap.size wo (w2.setCell ⟨Xb,0,none⟩ (.int .i64 LD))).setCell (by show wo.heap.size<=Xb;exact hXo) (.slice va LT.length vc):Below wo.heap.size wo ((w2.setCell ⟨Xb,0,none⟩ (.int .i64 LD)).setCell ⟨Xb,1,none⟩ (.slice va LT.length vc)))
     have HTZ:=Za ((hT4.set0 (.int .i64 LD)).set1 (.slice va LT.length vc))
     have HOZ:Hid (Z9 wo.heap.size ((w2.setCell ⟨Xb,0,none⟩ (.int .i64 LD)).setCell ⟨Xb,1,none⟩ (.slice va LT.length vc)) va LT):=Zf1 how hXl (by omega) hXo (by rw [Zb,Zb];exact Nat.le_refl _) (fun b hb=>(Below.heap_setCell _ ⟨Xb,1,none⟩ _ b hb).trans (Below.heap_setCell _ ⟨Xb,0,none⟩ _ b hb))
     clear how
     generalize (w2.setCell ⟨Xb,0,none⟩ (.int .i64 LD)).setCell ⟨Xb,1,none⟩ (.slice va LT.length vc)=wz at *
     refine hK.out _ _ HLZ.out (fun hS9=>?_)
     clear hK K x0 x1 xf0 xf1 LA L2 hT4
     refine ZB [11] rfl (by kernel_rfl) (by kernel_rfl) (by kernel_rfl) hS9 ?_
     iterate 1 (refine⟨_,rfl,?_⟩;apply Exists.intro;refine⟨Or.inl ⟨by rfl,fun w' hw'=>?_⟩,?_⟩;(focus (first | (go_simp;done) | (go_simp;with_reducible rfl)));simp only [Act.put,List.getElem_toArray,List.getElem_cons_succ,List.getElem_cons_zero,List.setIfInBounds_toArray,List.set_cons_zero,List.set_cons_succ])
     refine NoPanic.normal (NoPanic.normal ?_)
     go_wp2_with fail
     go_meet
     exact⟨Xb,va,vc,rfl,rfl,HTZ.out,HOZ.out,hXo,HLZ.out⟩
  case rest=>
   obtain⟨X,va,vc,rfl,rfl,hX,hKT,hXW,L5⟩:=hcut
   generalize hwc:wc=w5 at *
   clear hwc wc BLo HSo HCo
   have hD5:w5.heap[D]? =some (.cells #[.int .i64 wd,.slice ag ds.length c,.int .i64 d,.slice va0 ts.length vc0,.int .i64 nx] 52):=(L5.block D (by omega)).trans HDo.out
   have HL5:Hid (Below W0.heap.size W0 w5):=HL1.out.trans (Below.mono L5 HL1.out.size)
   rcases hrb:rr with _ | _
   · subst hrb
     have HNO:Hid (kpB wd nx d p ts=false):=by show _=_;rw [HKB.out];exact HLX.out.2.2
     clear hX hKT L5 hD5
     go_wp2_with fail
     go_ret
     exact⟨fun _=>⟨rfl,HL5.out⟩,fun h=>by rw [HNO.out] at h;cases h⟩
   · subst hrb
     have HYES:Hid (kpB wd nx d p ts=true):=by show _=_;rw [HKB.out];exact HLX.out.2.2
     obtain⟨f0,f1,f2,f3,f4,ff,hDl5⟩:=Ze hD5
     have ff2:=ff 2
     have ff3:=ff 3
     have x0:=hX.c0
     have x1:=hX.c1
     obtain⟨w7,hw7⟩:∃w7,(w5.setCell ⟨D,2,none⟩ (.int .i64 LD)).setCell ⟨D,3,none⟩ (.slice va LT.length vc)=w7:=⟨_,rfl⟩
     have far7:∀b,b≠D->w7.heap[b]? =w5.heap[b]? :=fun b hb=>by rw [<-hw7];exact (Below.heap_setCell _ ⟨D,3,none⟩ _ b (fun e=>hb e)).trans (Below.heap_setCell _ ⟨D,2,none⟩ _ b (fun e=>hb e))
     have hs7:w5.heap.size=w7.heap.size:=by rw [<-hw7,Zb,Zb]
     have hD7:w7.heap[D]? =some (.cells #[.int .i64 wd,.slice ag ds.length c,.int .i64 LD,.slice va LT.length vc,.int .i64 nx] 52):=by
      rw [<-hw7]
      exact heap_setCell_same _ D 3 _ _ _ (heap_setCell_same w5 D 2 _ _ _ hD5)
     have HC7:Hid (Cgd (fun b=>b=D\/og=some b) W0 w7):=⟨by rw [<-hw7];exact HL5.out.os,by rw [<-hw7];exact HL5.out.tape,by rw [<-hw7];exact HL5.out.output,by have:=HL5.out.size;omega,fun b hb hn=>(far7 b (fun e=>hn (Or.inl e))).trans (HL5.out.block b hb)⟩
     have HR7:Hid (DRV base w7 ag c og ds):=Zjh (D:=D) (ZdJ HR.out (fun b _ h2=>HL5.out.block b h2)) (fun b _ _ h3=>far7 b h3) hDg (fun x hx e=>HDP.out x hx e)
     have hpr5:=HPR.out.below L5
     have HP7:Hid (ZF base w7 gp cq p):=Zav (hpr5.mono (by omega)) (far7 gp (by omega))
     have hM5:=HMo.out.below L5
     have HM7:Hid (Two w7 Mb (.int .i64 nx) (.slice (some ⟨gp,0,none⟩) p.length cq) 29):=(far7 Mb (by omega)).trans hM5
     have HK7:Hid (Z9 wo.heap.size w7 va LT):=hKT.step (by omega) (fun b h1 _=>far7 b (by omega))
     have hz5:=L5.size
     have HD7:=Za hD7
     clear hX hKT L5 hD5 hpr5 hM5
     go_wp2_with fail
     first | rw [hw7] | skip
     clear f0 f1 f2 f3 f4 ff ff2 ff3 x0 x1 hw7 far7
     have hMl7:=HM7.out.lt
     have hgm7:∀b,og=some b->b<w7.heap.size:=HR7.out.lt
     have hDl7:D<w7.heap.size:=by omega
     have hMgm:og≠some Mb:=fun e=>by have:=hgm Mb e;omega
     have BS:Hid (∀b,b<w7.heap.size->og≠some b->w7.drew.heap[b]? =w7.heap[b]?):=fun _ _ _=>rfl
     have HS7:Hid (∀X:World,(∀b,b<w7.heap.size->og≠some b->X.heap[b]? =w7.heap[b]?)->X.cell? ⟨D,1,none⟩=some (.slice ag ds.length c)/\X.cell? ⟨Mb,0,none⟩=some (.int .i64 nx)/\X.cell? ⟨Mb,1,none⟩=some (.slice (some ⟨gp,0,none⟩) p.length cq)):=fun X hX=>by
      have hd:=(hX D hDl7 hDg).trans hD7
      obtain⟨_,f1,_,_,_,_,_⟩:=Ze hd
      have hm:Two X Mb (.int .i64 nx) (.slice (some ⟨gp,0,none⟩) p.length cq) 29:=(hX Mb hMl7 hMgm).trans HM7.out
      exact⟨f1,hm.c0,hm.c1⟩
     clear hD7
     refine ZT (S:=fun X=>∀b,b<w7.heap.size->og≠some b->X.heap[b]? =w7.heap[b]?) (fuel:=4) [0,1,2,3,4,5] _ rfl (by kernel_rfl) (by kernel_rfl) (by kernel_rfl) (by kernel_rfl) (by kernel_rfl) (by kernel_rfl) (by kernel_rfl) BS.out (fun hS=>?_)
     simp only [List.pop_toArray,List.dropLast]
     iterate 6 (refine⟨_,rfl,?_⟩;apply Exists.intro;refine⟨Or.inl ⟨by rfl,fun w' hw'=>?_⟩,?_⟩;(focus (obtain⟨e1,e2,e3⟩:=HS7.out w' hw';first | (go_simp;done) | (go_simp;with_reducible rfl)));simp only [Act.put,List.getElem_toArray,List.getElem_cons_succ,List.getElem_cons_zero,List.setIfInBounds_toArray,List.set_cons_zero,List.set_cons_succ])
     refine Zc 6 (by kernel_rfl) rfl (fun K hK=>?_)
     go_simp
     obtain⟨w8,hw8⟩:∃w8,(w7.alloc (.cells #[.int .i64 nx,.slice (some ⟨gp,0,none⟩) p.length cq] 29)).drew=w8:=⟨_,rfl⟩
     have L8:Below w7.heap.size w7 w8:=by rw [<-hw8];exact ((Below.refl _ _).alloc (Nat.le_refl _) _).drew
     have hN8:w8.heap[w7.heap.size]? =some (.cells #[.int .i64 nx,.slice (some ⟨gp,0,none⟩) p.length cq] 29 (0,0)):=by rw [<-hw8];exact heap_alloc_new w7 _
     have hs8:w8.heap.size=w7.heap.size+1:=by rw [<-hw8];exact World.size_alloc w7 _
     have HR8:Hid (DRV base w8 ag c og ds):=ZdJ HR7.out (fun b _ h2=>L8.block b h2)
     have HP8:=Za (HP7.out.below L8)
     have HN8:=Za hN8
     have hS8:∀b,b<w7.heap.size->og≠some b->w8.heap[b]? =w7.heap[b]? :=fun b h1 _=>L8.block b h1
     first | rw [hw8] | skip
     refine hK.out _ _ hS8 (fun _=>?_)
     clear hK K hw8 hN8
     refine Zc 7 (by kernel_rfl) rfl (fun K hK=>?_)
     refine step_append_lies w8 rfl (.tmp 54) (.tmp 56) 44 rfl base 29 j0 _ 2 32 Tryz.underlying44 hj0 hy0 hy1 hy2 rfl (by omega) (.slice ag ds.length c) ds.length (Zu ds) rfl HR8.out.row ⟨w7.heap.size,0,none⟩ 1 1 [.int .i64 nx,.slice (some ⟨gp,0,none⟩) p.length cq] rfl rfl (World.news_of_block (cs:=#[.int .i64 nx,.slice (some ⟨gp,0,none⟩) p.length cq]) HN8.out) (by simp [Value.oneCell']) (by omega) (by unfold maxLen;omega) (by omega) (by omega) w8.heap.size rfl ?_
     intro g9 c9 w9 hown hgrow hat hlt9
     rw [HR8.out.own] at hgrow hat
     have HR9:Hid (ZL base w9 g9 c9 (ds++[(nx,gp,cq,p)])):=DRV.snoc HR8.out HP8.out (fun e=>by have:=hgm gp e;omega) (fun x hx=>by have:=(HR.out.rows x hx).1.lt2;omega) hown hgrow hat
     have hS9:∀b,b<w7.heap.size->og≠some b->w9.heap[b]? =w7.heap[b]? :=fun b h1 h2=>(hgrow.block b (by omega) (fun e=>h2 e.symm)).trans (L8.block b h1)
     have hs9:w7.heap.size<w9.heap.size:=by have:=hgrow.size;omega
     have HC9:Hid (Cgd (fun b=>b=D\/og=some b) W0 w9):=HC7.out.trans ⟨hgrow.os.trans L8.os,hgrow.tape.trans L8.tape,hgrow.output.trans L8.output,by omega,fun b h1 h2=>hS9 b h1 (fun e=>h2 (Or.inr e))⟩
     have HK9:Hid (Z9 wo.heap.size w9 va LT):=HK7.out.step (by omega) (fun b h1 h2=>hS9 b h2 (fun e=>by have:=hgm b e;omega))
     have hg9:g9≠D:=by
      rcases hat with e | e
      · exact fun h=>hDg (by rw [e,h])
      · omega
     refine hK.out _ _ hS9 (fun _=>?_)
     clear hK K hown hgrow
     refine Zc 8 (by kernel_rfl) rfl (fun K hK=>?_)
     go_simp
     refine hK.out _ _ hS9 (fun _=>?_)
     clear hK K
     refine Zc 9 (by kernel_rfl) rfl (fun K hK=>?_)
     go_simp
     refine hK.out _ _ hS9 (fun _=>?_)
     clear hK K
     refine wpAnyH_done (by kernel_rfl) ?_ _
     simp only [Exit.then]
     have hD9:w9.heap[D]? =some (.cells #[.int .i64 wd,.slice ag ds.length c,.int .i64 LD,.slice va LT.length vc,.int .i64 nx] 52):=(hS9 D hDl7 hDg).trans HD7.out
     obtain⟨f0,f1,f2,f3,f4,ff,hDl9⟩:=Ze hD9
     have ff1:=ff 1
     have ff4:=ff 4
     have hm9:Two w9 Mb (.int .i64 nx) (.slice (some ⟨gp,0,none⟩) p.length cq) 29:=(hS9 Mb hMl7 hMgm).trans HM7.out
     have m0:=hm9.c0
     obtain⟨wa,hwa⟩:∃wa,w9.setCell ⟨D,1,none⟩ (.slice (some ⟨g9,0,none⟩) (ds.length+1) c9)=wa:=⟨_,rfl⟩
     have hDa:wa.heap[D]? =some (.cells #[.int .i64 wd,.slice (some ⟨g9,0,none⟩) (ds.length+1) c9,.int .i64 LD,.slice va LT.length vc,.int .i64 nx] 52):=by rw [<-hwa];exact heap_setCell_same w9 D 1 _ _ _ hD9
     have fara:∀b,b≠D->wa.heap[b]? =w9.heap[b]? :=fun b hb=>by rw [<-hwa];exact Below.heap_setCell _ ⟨D,1,none⟩ _ b (fun e=>hb e)
     have hsa:w9.heap.size=wa.heap.size:=by rw [<-hwa,Zb]
     go_wp2_with fail
     refine NoPanic.normal ?_
     first | rw [hwa] | skip
     clear f0 f1 f2 f3 f4 ff ff1 ff4 m0
     obtain⟨q0,q1,q2,q3,q4,qf,hDla⟩:=Ze hDa
     have qf4:=qf 4
     have hma:Two wa Mb (.int .i64 nx) (.slice (some ⟨gp,0,none⟩) p.length cq) 29:=(fara Mb (by omega)).trans hm9
     have m0:=hma.c0
     obtain⟨wb,hwb⟩:∃wb,wa.setCell ⟨D,4,none⟩ (.int .i64 (nx+1))=wb:=⟨_,rfl⟩
     have hDb:wb.heap[D]? =some (.cells #[.int .i64 wd,.slice (some ⟨g9,0,none⟩) (ds.length+1) c9,.int .i64 LD,.slice va LT.length vc,.int .i64 (nx+1)] 52):=by rw [<-hwb];exact heap_setCell_same wa D 4 _ _ _ hDa
     have farb:∀b,b≠D->wb.heap[b]? =w9.heap[b]? :=fun b hb=>by rw [<-hwb];exact (Below.heap_setCell _ ⟨D,4,none⟩ _ b (fun e=>hb e)).trans (fara b hb)
     have hsb:w9.heap.size=wb.heap.size:=by rw [<-hwb,Zb];exact hsa
     have hmb:Two wb Mb (.int .i64 nx) (.slice (some ⟨gp,0,none⟩) p.length cq) 29:=(farb Mb (by omega)).trans hm9
     have m1:=hmb.c0
     have HCb:Hid (Cgd (fun b=>b=D\/og=some b) W0 wb):=HC9.out.trans ⟨by rw [<-hwb,<-hwa];rfl,by rw [<-hwb,<-hwa];rfl,by rw [<-hwb,<-hwa];rfl,by omega,fun b _ h2=>farb b (fun e=>h2 (Or.inl e))⟩
     have HKb:Hid (Z9 wo.heap.size wb va LT):=HK9.out.step (by omega) (fun b h1 _=>farb b (by omega))
     have HRb:Hid (∃gp' cq',ZL base wb g9 c9 (ds++[(nx,gp',cq',p)])/\(∀x∈ds++[(nx,gp',cq',p)],x.2.1≠D)):=by
      have hx9:∀x∈ds++[(nx,gp,cq,p)],x.2.1≠D:=fun x hx e=>by
       rcases List.mem_append.1 hx with hx | hx
       · exact HDP.out x hx e
       · rw [List.mem_singleton.1 hx] at e
         have e':gp=D:=e
         omega
      exact⟨gp,cq,Zcy (D:=D) HR9.out (by omega) (fun b _ _ h6=>farb b h6) hg9 hx9,hx9⟩
     have HDb:=Za hDb
     clear hDa hDb hma hmb hm9 hD9 fara farb
     have hwr:wrap64 (nx+1)=nx+1:=by have:=HNB.out;unfold wrap64;omega
     go_wp2_with fail
     first | rw [hwr,hwb] | rw [hwb] | skip
     go_wp2_with fail
     go_ret
     refine⟨(fun h=>by rw [HYES.out] at h;cases h),fun _=>⟨rfl,g9,c9,va,vc,?_,HRb.out,?_,HCb.out⟩⟩
     · rw [HLX.out.1,HLX.out.2.1];exact HDb.out
     · rw [HLX.out.2.1];exact Zbz HKb.out (by omega)
theorem Zgt{α :Type}(l:List α)(k:Nat):(l.take k++l.drop (k+1)).Sublist l:=by
 induction l generalizing k with
 | nil=>simp
 | cons a l ih=>
   cases k with
   | zero=>simp
   | succ k=>simpa using ih k
theorem ZmQ(base D gm c:Nat)(ds:List Dm)(wd d nx id:Int)(vt:Value)(w:World)(hD:w.heap[D]? =some (.cells #[.int .i64 wd,.slice (some ⟨gm,0,none⟩) ds.length c,.int .i64 d,vt,.int .i64 nx] 52))(hr:ZL base w gm c ds)(hn:ds.length<=60)(hDp:∀x∈ds,x.2.1≠D):
 Calls Tryz.prog 140 #[.pointer (some ⟨D,0,none⟩),.int .i64 id] w fun e w'=>(Zv (Zj ds) id<0->e=.returned (.bool false)/\w'=w)/\(0<=Zv (Zj ds) id->e=.returned (.bool true)/\∃g c2,w'.heap[D]? =some (.cells #[.int .i64 wd,.slice (some ⟨g,0,none⟩) (ds.take (Zy (Zj ds) id)++ds.drop (Zy (Zj ds) id+1)).length c2,.int .i64 d,vt,.int .i64 nx] 52)/\(ds.take (Zy (Zj ds) id)++ds.drop (Zy (Zj ds) id+1)).length<=c2/\ZL base w' g c2 (ds.take (Zy (Zj ds) id)++ds.drop (Zy (Zj ds) id+1))/\Cgd (fun b=>b=D) w w'):=by
 obtain⟨j0,hj0,hy0,hy1,hy2⟩:=info_parts Tryz.info29
 obtain⟨e0,e1,e2,e3,e4,ef,hDl⟩:=Ze hD
 have hml:=Zp ds
 have HF:=Za (Ze2 (some ⟨gm,0,none⟩) c (Zj ds) id w hr.view (by rw [hml];omega))
 rw [hml] at HF
 have HD:=Za hD
 have HR:=Za hr
 have HCAP:=Za hr.cap
 have hgl:=hr.lt
 have hne:gm≠D:=fun e=>by
  have h1:=World.ownsRow.cellAt hr.1
  obtain⟨g',hh⟩:∃cur,w.heap[gm]? =some (.cells cur 29):=by
   obtain⟨-,⟨x,-⟩ | ⟨g',cap,cur,x,-,hg,-⟩⟩:=hr.1
   · cases x
   · injection x with x1;injection x1 with x1;injection x1 with x1
     exact⟨cur,by rw [x1];exact hg⟩
  rw [e,hD] at hh
  injection hh with hh
  injection hh with _ hh
  exact absurd hh (by decide)
 rcases Int.lt_or_le (Zv (Zj ds) id) 0 with hz | hz
 · have hz':¬0<=Zv (Zj ds) id:=by omega
   obtain⟨z,hzz⟩:∃z,Zv (Zj ds) id=z:=⟨_,rfl⟩
   rw [hzz] at HF hz
   have HZ:=Za hz'
   clear hz' hzz hr hD HD HR HCAP hgl hne ef hml
   go_enter Tryz.func140,Tryz.ntmps140
   go_wp2_with fail
   refine HF.out.mono ?_
   rintro e w1 ⟨rfl,hw1⟩
   subst hw1
   go_wp2_with fail
   go_ret
   exact⟨fun _=>⟨rfl,rfl⟩,fun h=>absurd HZ.out (by omega)⟩
 · obtain⟨hk1,hk2,-⟩:=ZQ hz
   obtain⟨k,hk⟩:∃k,Zy (Zj ds) id=k:=⟨_,rfl⟩
   rw [hml] at hk1
   rw [hk] at hk1 hk2 ⊢
   rw [<-hk2] at HF
   have HZ:=Za (And.intro hz hk)
   have HGL:=Za hgl.2
   have HPL:Hid (∀x∈ds,x.2.1<w.heap.size/\x.2.1≠D):=fun x hx=>⟨(hr.2.1 x hx).1.lt2.2,fun e=>hDp x hx e⟩
   clear hz hk hk2 hml hr hD hgl
   have hkc:k+1<=c:=by have:=HCAP.out;omega
   have hkc0:k<=c:=by omega
   have hkk:(k:Int)<=(k:Int)+1:=by omega
   have hi0:(0:Int)<=(k:Int):=Int.natCast_nonneg _
   have hwr:IntKind.i64.wrap ((k:Int)+1)=(k:Int)+1:=IntWalk.i64_in _ ⟨by omega,by omega⟩
   have hw0:(0:Int)<=(k:Int)+1:=by omega
   have hw1:(k:Int)+1<=(ds.length:Int):=by omega
   have htn:((k:Int)+1).toNat=k+1:=by omega
   have HE:Hid (∀W':World,W'.heap[D]? =w.heap[D]? ->W'.cell? ⟨D,1,none⟩=some (.slice (some ⟨gm,0,none⟩) ds.length c)):=fun W' h=>(World.cell?_of_block (a:=⟨D,1,none⟩) h).trans e1
   have ef1:=ef 1
   have hsrc1:ZV w 2 (some ⟨gm,0,none⟩) (ds.take k).length (Zu (ds.take k)):=by
    have:=ZdP (es:=ds.take k) HR.out.1 0 (by rw [List.length_take];omega) (fun i hi=>by rw [Nat.zero_add];exact Zfc ds k i (by rw [List.length_take] at hi;omega)) rfl
    rw [Nat.zero_mul] at this
    exact this
   have hl1:(ds.take k).length=k:=by rw [List.length_take];omega
   have hl2:(ds.drop (k+1)).length=ds.length-(k+1):=List.length_drop
   rw [hl1] at hsrc1
   have HS1:=Za hsrc1
   have HS2:Hid (ZV w 2 (if c=k+1 then some ⟨gm,0,none⟩ else some ⟨gm,(k+1)*2,none⟩) (ds.length-(k+1)) (Zu (ds.drop (k+1)))):=by
    show ZV _ _ _ _ _
    by_cases hc:c=k+1
    · have hcap:=HCAP.out
      have h0:ds.drop (k+1)=[]:=List.drop_eq_nil_of_le (by omega)
      rw [if_pos hc,h0]
      exact⟨by simp [Zu];omega,by simp [Zu],Or.inl (by omega)⟩
    · rw [if_neg hc,<-hl2]
      exact ZdP (es:=ds.drop (k+1)) HR.out.1 (k+1) (by rw [List.length_drop];omega) (fun i _=>Zfd ds (k+1) i) rfl
   have HLL:=Za (And.intro hl1 hl2)
   clear e2 e3 e4 ef hsrc1 hl1 hl2
   by_cases hc:c=k+1
   · subst hc
     have HS3:Hid (ZV w 2 (some ⟨gm,0,none⟩) (ds.length-(k+1)) (Zu (ds.drop (k+1)))):=by have h:=HS2.out;rw [if_pos rfl] at h;exact h
     clear HS2
     go_enter Tryz.func140,Tryz.ntmps140
     go_wp2_with fail
     refine HF.out.mono ?_
     rintro e w1 ⟨rfl,hw1⟩
     have hw2:=hw1.symm
     subst hw2
     clear HF
     go_wp2_with fail
     clear e0 e1 ef1
     refine ZT (S:=fun W'=>W'.cell? ⟨D,1,none⟩=some (.slice (some ⟨gm,0,none⟩) ds.length (k+1))) (fuel:=5)
      [0,2,3,4,5,6,7,9,10,11,12,13,14,15] _ rfl (by kernel_rfl) (by kernel_rfl) (by kernel_rfl) (by kernel_rfl) (by kernel_rfl) (by kernel_rfl) (by kernel_rfl) (HE.out _ rfl) (fun _=>?_)
     iterate 14
      refine⟨_,rfl,?_⟩
      apply Exists.intro
      refine⟨Or.inl ⟨by rfl,fun w' hw'=>?_⟩,?_⟩
      · first
        | (go_simp;done)
        | (go_simp;with_reducible rfl)
      simp only [Act.put,List.setIfInBounds_toArray]
     refine Zc 1 (by kernel_rfl) rfl (fun K hK=>?_)
     go_simp
     obtain⟨w5,hw5⟩:∃w5,(w.alloc (.cells #[] 29)).drew=w5:=⟨_,rfl⟩
     have L5:Below w.heap.size w w5:=by rw [<-hw5];exact ((Below.refl w.heap.size w).alloc (Nat.le_refl _) _).drew
     have HR5:Hid (w5.ownsRow w.heap.size 29 2 (.slice (some ⟨w.heap.size,0,none⟩) 0 0) 0 []):=by
      have h:(w.alloc (.cells #[] 29)).ownsRow w.heap.size 29 2 (.slice (some ⟨w.heap.size,0,none⟩) 0 0) 0 []:=World.ownsRow_lit w #[] 0 (Nat.le_refl _) (Nat.zero_le _) rfl
      show _
      rw [<-hw5]
      exact h
     have hs5:w5.heap.size=w.heap.size+1:=by rw [<-hw5];simp
     have HL5:=Za L5
     rw [hw5]
     clear hw5 L5
     refine hK.out _ _ (HE.out _ (HL5.out.block D hDl)) (fun _=>?_)
     clear hK K
     refine Zc 8 (by kernel_rfl) rfl (fun K hK=>?_)
     refine Zi w5 rfl (.tmp 15) (.tmp 21) 44 rfl w.heap.size 29 j0 _ 2 32 Tryz.underlying44 hj0 hy0 hy1 hy2 rfl (by omega) w.heap.size 0 0 [] rfl HR5.out (some ⟨gm,0,none⟩) k (k+1) (Zu (ds.take k)) rfl (ZbL HS1.out (HL5.out.block gm HGL.out)) (by unfold maxLen;omega) (by omega) (by omega) w5.heap.size rfl ?_
     intro g6 c6 w6 hown6 hgrow6 hat6 hlt6
     have HR6:=Za hown6
     have hz6:=hgrow6.size
     have HL6:Hid (Below w.heap.size w w6):=HL5.out.grown hgrow6 (by omega) (by intro q hq;cases hq;omega)
     clear hown6 hgrow6
     refine hK.out _ _ (HE.out _ (HL6.out.block D hDl)) (fun _=>?_)
     clear hK K
     refine Zc 16 (by kernel_rfl) rfl (fun K hK=>?_)
     refine Zi w6 rfl (.tmp 22) (.tmp 29) 44 rfl w.heap.size 29 j0 _ 2 32 Tryz.underlying44 hj0 hy0 hy1 hy2 rfl (by omega) g6 (0+k) c6 ([]++Zu (ds.take k)) rfl HR6.out (some ⟨gm,0,none⟩) (ds.length-(k+1)) 0 (Zu (ds.drop (k+1))) rfl (ZbL HS3.out (HL6.out.block gm HGL.out)) (by unfold maxLen;omega) (by omega) (by have:=HL6.out.size;omega) w6.heap.size rfl ?_
     intro g8 c8 w8 hown8 hgrow8 hat8 hlt8
     have hg6:=(World.ownsRow.lt HR6.out g6 rfl).1
     have HL8:Hid (Below w.heap.size w w8):=HL6.out.grown hgrow8 (by have:=HL6.out.size;omega) (by intro q hq;cases hq;omega)
     have HO8:Hid (w8.ownsRow w.heap.size 29 2 (.slice (some ⟨g8,0,none⟩) (k+(ds.length-(k+1))) c8) (k+(ds.length-(k+1))) (Zu (ds.take k++ds.drop (k+1)))):=by
      have h:=hown8
      rw [List.nil_append,<-Zay,Nat.zero_add] at h
      exact h
     clear hown8 hgrow8
     refine hK.out _ _ (HE.out _ (HL8.out.block D hDl)) (fun _=>?_)
     clear hK K
     refine Zc 17 (by kernel_rfl) rfl (fun K hK=>?_)
     go_simp
     refine hK.out _ _ (HE.out _ (HL8.out.block D hDl)) (fun _=>?_)
     clear hK K
     refine Zc 18 (by kernel_rfl) rfl (fun K hK=>?_)
     go_simp
     refine hK.out _ _ (HE.out _ (HL8.out.block D hDl)) (fun _=>?_)
     clear hK K
     refine wpAnyH_done (by kernel_rfl) ?_ _
     simp only [Exit.then]
     have t8:=(HL8.out.block D hDl).trans HD.out
     obtain⟨-,u1,-,-,-,uf,-⟩:=Ze t8
     have uf1:=uf 1
     obtain⟨len8,hlen8⟩:∃n8,k+(ds.length-(k+1))=n8:=⟨_,rfl⟩
     have hlen9:(ds.take k++ds.drop (k+1)).length=len8:=by rw [List.length_append,HLL.out.1,HLL.out.2];omega
     rw [hlen8] at HO8 ⊢
     have HOO:Hid (∀w':World,w'=w8.setCell ⟨D,1,none⟩ (.slice (some ⟨g8,0,none⟩) len8 c8)->∃g c2,w'.heap[D]? =some (.cells #[.int .i64 wd,.slice (some ⟨g,0,none⟩) (ds.take k++ds.drop (k+1)).length c2,.int .i64 d,vt,.int .i64 nx] 52)/\(ds.take k++ds.drop (k+1)).length<=c2/\ZL base w' g c2 (ds.take k++ds.drop (k+1))/\Cgd (fun b=>b=D) w w'):=fun w' e=>by
      have hfar:∀b,b≠D->w'.heap[b]? =w8.heap[b]? :=fun b hb=>by rw [e];exact Below.heap_setCell w8 ⟨D,1,none⟩ _ b (fun e=>hb e)
      have hg8:=(World.ownsRow.lt HO8.out g8 rfl)
      have hcap8:len8<=c8:=by
       obtain⟨-,⟨x,-⟩ | ⟨g',cap,cur,x,-,-,hcc,-⟩⟩:=HO8.out
       · cases x
       · injection x with x1 x2 x3;omega
      have hown:w'.ownsRow w.heap.size 29 2 (.slice (some ⟨g8,0,none⟩) len8 c8) len8 (Zu (ds.take k++ds.drop (k+1))):=Za2 HO8.out (fun g eg=>by
       have e':g=g8:=by simpa [Value.ownBlock] using eg.symm
       exact hfar g (by omega))
      rw [hlen9]
      refine⟨g8,c8,by rw [e];exact Zco t8,hcap8,?_,?_⟩
      · exact Zhx HR.out.drv (Zgt ds k) (by rw [hlen9];exact hown) (by have:=HR.out.lt;omega) hg8.1 (fun x hx=>(hfar _ (HPL.out x hx).2).trans (HL8.out.block _ (HPL.out x hx).1))
      · exact⟨by rw [e];exact HL8.out.os,by rw [e];exact HL8.out.tape,by rw [e];exact HL8.out.output,by rw [e,Zb];exact HL8.out.size,fun b hb hne=>(hfar b hne).trans (HL8.out.block b hb)⟩
     clear t8 uf hlen8 hlen9 HR5 HR6 HL5 HL6 HO8 HE HD HS1 HS3 HLL
     go_wp2_with fail
     refine NoPanic.normal ?_
     go_wp2_with fail
     go_ret
     exact⟨fun h=>absurd h (by have:=HZ.out.1;omega),fun _=>⟨rfl,HOO.out _ rfl⟩⟩
   · have HS3:Hid (ZV w 2 (some ⟨gm,(k+1)*2,none⟩) (ds.length-(k+1)) (Zu (ds.drop (k+1)))):=by have h:=HS2.out;rw [if_neg hc] at h;exact h
     clear HS2
     go_enter Tryz.func140,Tryz.ntmps140
     go_wp2_with fail
     refine HF.out.mono ?_
     rintro e w1 ⟨rfl,hw1⟩
     have hw2:=hw1.symm
     subst hw2
     clear HF
     go_wp2_with fail
     clear e0 e1 ef1
     refine ZT (S:=fun W'=>W'.cell? ⟨D,1,none⟩=some (.slice (some ⟨gm,0,none⟩) ds.length c)) (fuel:=5)
      [0,2,3,4,5,6,7,9,10,11,12,13,14,15] _ rfl (by kernel_rfl) (by kernel_rfl) (by kernel_rfl) (by kernel_rfl) (by kernel_rfl) (by kernel_rfl) (by kernel_rfl) (HE.out _ rfl) (fun _=>?_)
     iterate 14
      refine⟨_,rfl,?_⟩
      apply Exists.intro
      refine⟨Or.inl ⟨by rfl,fun w' hw'=>?_⟩,?_⟩
      · first
        | (go_simp;done)
        | (go_simp;with_reducible rfl)
      simp only [Act.put,List.setIfInBounds_toArray]
     refine Zc 1 (by kernel_rfl) rfl (fun K hK=>?_)
     go_simp
     obtain⟨w5,hw5⟩:∃w5,(w.alloc (.cells #[] 29)).drew=w5:=⟨_,rfl⟩
     have L5:Below w.heap.size w w5:=by rw [<-hw5];exact ((Below.refl w.heap.size w).alloc (Nat.le_refl _) _).drew
     have HR5:Hid (w5.ownsRow w.heap.size 29 2 (.slice (some ⟨w.heap.size,0,none⟩) 0 0) 0 []):=by
      have h:(w.alloc (.cells #[] 29)).ownsRow w.heap.size 29 2 (.slice (some ⟨w.heap.size,0,none⟩) 0 0) 0 []:=World.ownsRow_lit w #[] 0 (Nat.le_refl _) (Nat.zero_le _) rfl
      show _
      rw [<-hw5]
      exact h
     have hs5:w5.heap.size=w.heap.size+1:=by rw [<-hw5];simp
     have HL5:=Za L5
     rw [hw5]
     clear hw5 L5
     refine hK.out _ _ (HE.out _ (HL5.out.block D hDl)) (fun _=>?_)
     clear hK K
     refine Zc 8 (by kernel_rfl) rfl (fun K hK=>?_)
     refine Zi w5 rfl (.tmp 15) (.tmp 21) 44 rfl w.heap.size 29 j0 _ 2 32 Tryz.underlying44 hj0 hy0 hy1 hy2 rfl (by omega) w.heap.size 0 0 [] rfl HR5.out (some ⟨gm,0,none⟩) k c (Zu (ds.take k)) rfl (ZbL HS1.out (HL5.out.block gm HGL.out)) (by unfold maxLen;omega) (by omega) (by omega) w5.heap.size rfl ?_
     intro g6 c6 w6 hown6 hgrow6 hat6 hlt6
     have HR6:=Za hown6
     have hz6:=hgrow6.size
     have HL6:Hid (Below w.heap.size w w6):=HL5.out.grown hgrow6 (by omega) (by intro q hq;cases hq;omega)
     clear hown6 hgrow6
     refine hK.out _ _ (HE.out _ (HL6.out.block D hDl)) (fun _=>?_)
     clear hK K
     refine Zc 16 (by kernel_rfl) rfl (fun K hK=>?_)
     refine Zi w6 rfl (.tmp 22) (.tmp 29) 44 rfl w.heap.size 29 j0 _ 2 32 Tryz.underlying44 hj0 hy0 hy1 hy2 rfl (by omega) g6 (0+k) c6 ([]++Zu (ds.take k)) rfl HR6.out (some ⟨gm,(k+1)*2,none⟩) (ds.length-(k+1)) (c-(k+1)) (Zu (ds.drop (k+1))) rfl (ZbL HS3.out (HL6.out.block gm HGL.out)) (by unfold maxLen;omega) (by omega) (by have:=HL6.out.size;omega) w6.heap.size rfl ?_
     intro g8 c8 w8 hown8 hgrow8 hat8 hlt8
     have hg6:=(World.ownsRow.lt HR6.out g6 rfl).1
     have HL8:Hid (Below w.heap.size w w8):=HL6.out.grown hgrow8 (by have:=HL6.out.size;omega) (by intro q hq;cases hq;omega)
     have HO8:Hid (w8.ownsRow w.heap.size 29 2 (.slice (some ⟨g8,0,none⟩) (k+(ds.length-(k+1))) c8) (k+(ds.length-(k+1))) (Zu (ds.take k++ds.drop (k+1)))):=by
      have h:=hown8
      rw [List.nil_append,<-Zay,Nat.zero_add] at h
      exact h
     clear hown8 hgrow8
     refine hK.out _ _ (HE.out _ (HL8.out.block D hDl)) (fun _=>?_)
     clear hK K
     refine Zc 17 (by kernel_rfl) rfl (fun K hK=>?_)
     go_simp
     refine hK.out _ _ (HE.out _ (HL8.out.block D hDl)) (fun _=>?_)
     clear hK K
     refine Zc 18 (by kernel_rfl) rfl (fun K hK=>?_)
     go_simp
     refine hK.out _ _ (HE.out _ (HL8.out.block D hDl)) (fun _=>?_)
     clear hK K
     refine wpAnyH_done (by kernel_rfl) ?_ _
     simp only [Exit.then]
     have t8:=(HL8.out.block D hDl).trans HD.out
     obtain⟨-,u1,-,-,-,uf,-⟩:=Ze t8
     have uf1:=uf 1
     obtain⟨len8,hlen8⟩:∃n8,k+(ds.length-(k+1))=n8:=⟨_,rfl⟩
     have hlen9:(ds.take k++ds.drop (k+1)).length=len8:=by rw [List.length_append,HLL.out.1,HLL.out.2];omega
     rw [hlen8] at HO8 ⊢
     have HOO:Hid (∀w':World,w'=w8.setCell ⟨D,1,none⟩ (.slice (some ⟨g8,0,none⟩) len8 c8)->∃g c2,w'.heap[D]? =some (.cells #[.int .i64 wd,.slice (some ⟨g,0,none⟩) (ds.take k++ds.drop (k+1)).length c2,.int .i64 d,vt,.int .i64 nx] 52)/\(ds.take k++ds.drop (k+1)).length<=c2/\ZL base w' g c2 (ds.take k++ds.drop (k+1))/\Cgd (fun b=>b=D) w w'):=fun w' e=>by
      have hfar:∀b,b≠D->w'.heap[b]? =w8.heap[b]? :=fun b hb=>by rw [e];exact Below.heap_setCell w8 ⟨D,1,none⟩ _ b (fun e=>hb e)
      have hg8:=(World.ownsRow.lt HO8.out g8 rfl)
      have hcap8:len8<=c8:=by
       obtain⟨-,⟨x,-⟩ | ⟨g',cap,cur,x,-,-,hcc,-⟩⟩:=HO8.out
       · cases x
       · injection x with x1 x2 x3;omega
      have hown:w'.ownsRow w.heap.size 29 2 (.slice (some ⟨g8,0,none⟩) len8 c8) len8 (Zu (ds.take k++ds.drop (k+1))):=Za2 HO8.out (fun g eg=>by
       have e':g=g8:=by simpa [Value.ownBlock] using eg.symm
       exact hfar g (by omega))
      rw [hlen9]
      refine⟨g8,c8,by rw [e];exact Zco t8,hcap8,?_,?_⟩
      · exact Zhx HR.out.drv (Zgt ds k) (by rw [hlen9];exact hown) (by have:=HR.out.lt;omega) hg8.1 (fun x hx=>(hfar _ (HPL.out x hx).2).trans (HL8.out.block _ (HPL.out x hx).1))
      · exact⟨by rw [e];exact HL8.out.os,by rw [e];exact HL8.out.tape,by rw [e];exact HL8.out.output,by rw [e,Zb];exact HL8.out.size,fun b hb hne=>(hfar b hne).trans (HL8.out.block b hb)⟩
     clear t8 uf hlen8 hlen9 HR5 HR6 HL5 HL6 HO8 HE HD HS1 HS3 HLL
     go_wp2_with fail
     refine NoPanic.normal ?_
     go_wp2_with fail
     go_ret
     exact⟨fun h=>absurd h (by have:=HZ.out.1;omega),fun _=>⟨rfl,HOO.out _ rfl⟩⟩
theorem ZnQ(base D c:Nat)(ag:Option Addr)(og:Option Nat)(ds:List Dm)(wd d nx id:Int)(vt:Value)(w:World)(hD:w.heap[D]? =some (.cells #[.int .i64 wd,.slice ag ds.length c,.int .i64 d,vt,.int .i64 nx] 52))(hr:DRV base w ag c og ds)(hn:ds.length<=60)(hDp:∀x∈ds,x.2.1≠D):
 Calls Tryz.prog 140 #[.pointer (some ⟨D,0,none⟩),.int .i64 id] w fun e w'=>(Zv (Zj ds) id<0->e=.returned (.bool false)/\w'=w)/\(0<=Zv (Zj ds) id->e=.returned (.bool true)/\∃g c2,w'.heap[D]? =some (.cells #[.int .i64 wd,.slice (some ⟨g,0,none⟩) (ds.take (Zy (Zj ds) id)++ds.drop (Zy (Zj ds) id+1)).length c2,.int .i64 d,vt,.int .i64 nx] 52)/\(ds.take (Zy (Zj ds) id)++ds.drop (Zy (Zj ds) id+1)).length<=c2/\ZL base w' g c2 (ds.take (Zy (Zj ds) id)++ds.drop (Zy (Zj ds) id+1))/\Cgd (fun b=>b=D) w w'):=by
 rcases hr.cases with ⟨rfl,rfl,rfl,rfl⟩ | ⟨g,rfl,rfl,hrw⟩
 · have hz:Zv (Zj []) id<0:=by simp [Zv,Z4,Zj]
   have HF:=Za (Ze2 none 0 (Zj []) id w (Or.inl rfl) (by decide))
   have hz':¬0<=Zv (Zj []) id:=by omega
   obtain⟨z,hzz⟩:∃z,Zv (Zj []) id=z:=⟨_,rfl⟩
   have HL:Hid (Calls Tryz.prog 116 #[.slice none 0 0,.int .i64 id] w fun e w'=>e=.returned (.int .i64 z)/\w'=w):=by rw [<-hzz];exact HF.out
   rw [hzz] at hz
   have HZ:=Za hz'
   obtain⟨e0,e1,e2,e3,e4,ef,hDl⟩:=Ze hD
   have e1':w.cell? ⟨D,1,none⟩=some (.slice none 0 0):=e1
   clear e1 hz' hzz HF e0 e2 e3 e4 ef hr hD
   go_enter Tryz.func140,Tryz.ntmps140
   go_wp2_with fail
   refine HL.out.mono ?_
   rintro e w1 ⟨rfl,hw1⟩
   subst hw1
   go_wp2_with fail
   go_ret
   exact⟨fun _=>⟨rfl,rfl⟩,fun h=>absurd HZ.out (by omega)⟩
 · exact ZmQ base D g c ds wd d nx id vt w hD hrw hn hDp
end Go.Proofs.YtaaagmgglolibaaGreat
