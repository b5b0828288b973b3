import Derived.Test.YtaaagmgglolibaaGreatGnStZz
import Derived.Test.YtaaagmgglolibaaGreatTwArgsZz
import Derived.Test.YtaaagmgglolibaaGreatGnCpyZz
import Derived.Test.YtaaagmgglolibaaGreatLkWebZz
import Derived.Test.YtaaagmgglolibaaGreatLastZz
import Derived.Test.YtaaagmgglolibaaGreatCopyZz
import Derived.Test.YtaaagmgglolibaaGreatMMarkZz
import Derived.Test.YtaaagmgglolibaaGreatMRowZz
import Derived.Test.YtaaagmgglolibaaGreatMathZz
import Derived.Test.YtaaagmgglolibaaGreatFeLikeZz
import Derived.Test.YtaaagmgglolibaaGreatBytesZz
import Derived.Deep.CutBlock
import Derived.Deep.DeepCutAuto
set_option maxRecDepth 100000
set_option maxHeartbeats 16000000
namespace Go.Proofs.YtaaagmgglolibaaGreat
open Go Go.RowKit
def ZgJ(b:Bool)(ms:List Mk)(nx:Int)(p:List Int):List Mk:=if b=true then ms++[(nx,p)] else ms
def kpDd(b:Bool)(nx:Int)(p:List Int)(ts:List Wb)(d:Int):Int:=if b=true then Zcg (nx,p) ts d else d
def ZhF(b:Bool)(nx:Int)(p:List Int)(ts:List Wb)(d:Int):List Wb:=if b=true then ZaI (nx,p) ts d else ts
def kpNx(b:Bool)(nx:Int):Int:=if b=true then nx+1 else nx
def Zkh(b:Bool)(nx:Int):Int:=if b=true then nx else -1
theorem ZdU{wd:Int}{ms:List Mk}{d:Int}{ts:List Wb}{nx:Int}(h:stB wd ms d ts nx=true):0<=nx/\nx<=1000000:=by
 simp only [stB,inR,Bool.and_eq_true,decide_eq_true_eq] at h
 omega
theorem ZhG{P:Nat->Prop}{w w':World}(L:Below w.heap.size w w'):Cgd P w w':=⟨by cases L;assumption,by cases L;assumption,by cases L;assumption,L.size,fun b hb _=>L.block b hb⟩
theorem ZmX(v:Bool)(am aw:Option Addr)(cm cw:Nat)(wd:Int)(ms:List Mk)(d:Int)(ts:List Wb)(nx:Int)(ap:Option Addr)(cp:Nat)(p:List Int)(w:World)(hm:Zq w am ms)(hv:Zz v w aw ts)(hp:Zs w ap p)(hpl:p.length<=1048576)(hsm:Z5 ms ts)(hst:stB wd ms d ts nx=true)(hmb:Zn ms=true)(hok:ZZ d ts=true):
 Calls Tryz.prog 37 #[.agg #[.int .i64 wd,.slice am ms.length cm,.int .i64 d,.slice aw ts.length cw,.int .i64 nx],.slice ap p.length cp] w fun e w'=>∃x,e=.returned (.tuple #[x,.int .i64 (Zkh (kpB wd nx d p ts) nx)])/\StV w' x wd (ZgJ (kpB wd nx d p ts) ms nx p) (kpDd (kpB wd nx d p ts) nx p ts d) (ZhF (kpB wd nx d p ts) nx p ts d) (kpNx (kpB wd nx d p ts) nx)/\Below w.heap.size w w':=by
 obtain⟨W1,hW1⟩:∃W,w.alloc (.cells #[.int .i64 wd,.slice am ms.length cm,.int .i64 d,.slice aw ts.length cw,.int .i64 nx] 52)=W:=⟨_,rfl⟩
 have hB1:Below w.heap.size w W1:=by rw [<-hW1];exact (Below.refl _ _).alloc (Nat.le_refl _) _
 have hI1:Z7 v W1 w.heap.size am aw cm cw wd ms d ts nx:=by rw [<-hW1];exact Z7.box hm hv
 obtain⟨W,hW⟩:∃W,W1.alloc (.cells #[.int .i64 0,.slice none 0 0,.int .i64 0,.slice none 0 0,.int .i64 0] 52)=W:=⟨_,rfl⟩
 have hB2:Below W1.heap.size W1 W:=by rw [<-hW];exact (Below.refl _ _).alloc (Nat.le_refl _) _
 have s1:W1.heap.size=w.heap.size+1:=by rw [<-hW1];simp
 have s2:W.heap.size=w.heap.size+1+1:=by rw [<-hW];simp [s1]
 have TR:W.heap[w.heap.size+1]? =some (.cells #[.int .i64 0,.slice none 0 0,.int .i64 0,.slice none 0 0,.int .i64 0] 52):=by rw [<-hW,<-s1];exact heap_alloc_new W1 _
 have hI:=hI1.below hB2
 have HB:=Za (Zd hB1 hB2)
 have HI:=Za hI
 have HTR:=Za TR
 have HSZ:=Za s2
 have HC:=Za (ZcS v am aw cm cw wd ms d ts nx W hI.mv hI.wv hsm)
 rw [hst] at HC
 have HCP:=Za (fun (W':World) (L:Below W.heap.size W W')=>ZlA v am aw cm cw wd ms d ts nx W' (hI.below L).mv (hI.below L).wv hmb hok)
 have H60:=Za (ZA hmb)
 have HNB:=Za (ZdU hst)
 have HP:=Za (And.intro hp hpl)
 have HOKS:=Za (And.intro hok hsm.2.1)
 have k0:=hI.c0
 have k1:=hI.c1
 have k2:=hI.c2
 have k3:=hI.c3
 have k4:=hI.c4
 have HWW:Hid ((w.alloc (.cells #[.int .i64 wd,.slice am ms.length cm,.int .i64 d,.slice aw ts.length cw,.int .i64 nx] 52)).alloc (.cells #[.int .i64 0,.slice none 0 0,.int .i64 0,.slice none 0 0,.int .i64 0] 52)=W):=by show _=_;rw [hW1,hW]
 clear hp hpl hm hv hB1 hI1 hB2 TR hI s1 s2 hW hW1 hok hmb hsm hst
 go_enter Tryz.func37,Tryz.ntmps37
 go_upto_region 1 with fail
 rw [HWW.out]
 clear HWW
 go_wp2_with fail
 refine HC.out.mono ?_
 rintro e w1 ⟨rfl,L1⟩
 clear k0 k1 k2 k3 k4
 have hI1:=HI.out.below L1
 have k0:=hI1.c0
 have k1:=hI1.c1
 have k2:=hI1.c2
 have k3:=hI1.c3
 have k4:=hI1.c4
 have HCP1:=Za (HCP.out w1 L1)
 have HL1:=Za L1
 clear hI1 L1
 go_wp2_with fail
 refine HCP1.out.mono ?_
 rintro e w2 ⟨gm,c,vt,rfl,⟨ds,hds,hcp⟩,L2⟩
 clear k0 k1 k2 k3 k4
 obtain⟨B,hdr,hct,hgB,hdB,hbB⟩:=hcp
 obtain⟨ta,tc,rfl,-,-⟩:=hct.form
 have hdl:ds.length=ms.length:=by rw [<-hds,Zp]
 obtain⟨w3,hw3⟩:∃w3,w2.alloc (.cells #[.int .i64 wd,.slice (some ⟨gm,0,none⟩) ms.length c,.int .i64 d,.slice ta ts.length tc,.int .i64 nx] 52)=w3:=⟨_,rfl⟩
 have L3:Below w2.heap.size w2 w3:=by rw [<-hw3];exact (Below.refl _ _).alloc (Nat.le_refl _) _
 have t3:w3.heap[w2.heap.size]? =some (.cells #[.int .i64 wd,.slice (some ⟨gm,0,none⟩) ms.length c,.int .i64 d,.slice ta ts.length tc,.int .i64 nx] 52):=by rw [<-hw3];exact heap_alloc_new w2 _
 have hsz1:=HL1.out.size
 have hs2:=HSZ.out
 have hdr3:ZL (w1.heap.size+1+1) w3 gm c ds:=ZaC hdr (fun b _ hb=>L3.block b hb)
 have hct3:∃S vm vl,TsR false B w3 (.slice ta ts.length tc) ts S vm vl/\∀b,FtR (.slice ta ts.length tc) ts.length S b->b<w2.heap.size:=by
  obtain⟨S,vm,vl,ht⟩:=hct
  exact⟨S,vm,vl,ht.next L3,fun b hb=>(ht.bnd b hb).2⟩
 have hgmlt:=hdr.lt
 have hwv3:Zz true w3 ta ts:=by
  obtain⟨S,vm,vl,ht,-⟩:=hct3
  obtain⟨a',c',e',-,hv'⟩:=ht.form
  injection e' with e1 e2 e3
  rw [e1];exact hv'
 have hkt3:Z9 B w3 ta ts:=by
  obtain⟨S,vm,vl,ht,-⟩:=hct3
  exact ht.kept
 have hB3:Below w.heap.size w w3:=(HB.out.trans (Below.mono HL1.out (by omega))).trans ((Below.mono L2 (by omega)).trans (Below.mono L3 (by have:=L2.size;omega)))
 have hz23:=L2.size
 have HGG:=Za (Zoc (w1.heap.size+1+1) w2.heap.size gm c ds wd d nx ta tc ts ap cp p w3 (by rw [hdl];exact t3) hdr3 hwv3 (HP.out.1.next hB3) HP.out.2 HOKS.out.1 HOKS.out.2 (by rw [hdl];exact H60.out) (fun x hx=>by have:=(hdr.2.1 x hx).1.lt2.2;omega) HNB.out)
 have HKT:=Za hkt3
 have HSW:Hid (w.heap.size+1<B):=by show _<_;have:=HSZ.out;omega
 have HBW:Hid (Below W.heap.size W w3):=Zd (Zd HL1.out (Below.mono L2 (Nat.le_refl _))) L3
 have HCT:=Za (And.intro hct3 (And.intro hgmlt hbB))
 have HT3:=Za t3
 have HDS:=Za (And.intro hds hdl)
 have HDR:=Za hdr3
 have HW3:=Za hw3
 have HZ3:Hid (w3.heap.size=w2.heap.size+1):=by show _=_;rw [<-hw3];simp
 have HDG:Hid (gm≠w2.heap.size/\∀x∈ds,x.2.1≠w2.heap.size):=⟨by omega,fun x hx=>by have:=(hdr.2.1 x hx).1.lt2.2;omega⟩
 clear hwv3 hkt3 hB3 hz23 hdr hct hds hgB hdB hdr3 hct3 L2 L3 t3 hw3 hgmlt hdl HCP1 HCP
 go_upto_region 4 with fail
 rw [HW3.out]
 go_wp2_with fail
 refine HGG.out.mono ?_
 rintro e w4 ⟨hno,hyes⟩
 have hX:∃r a n c2 dd va m3 c3 nn,e=.returned (.int .i64 r)/\r=Zkh (kpB wd nx d p ts) nx/\w4.heap[w2.heap.size]? =some (.cells #[.int .i64 wd,.slice a n c2,.int .i64 dd,.slice va m3 c3,.int .i64 nn] 52)/\n=(ZgJ (kpB wd nx d p ts) ms nx p).length/\dd=kpDd (kpB wd nx d p ts) nx p ts d/\m3=(ZhF (kpB wd nx d p ts) nx p ts d).length/\nn=kpNx (kpB wd nx d p ts) nx/\(∀W':World,w4.heap.size<=W'.heap.size->(∀b,w1.heap.size+1+1<=b->b<w4.heap.size->b≠w2.heap.size->W'.heap[b]? =w4.heap[b]?)->Zq W' a (ZgJ (kpB wd nx d p ts) ms nx p))/\Z9 (w.heap.size+1+1) w4 va (ZhF (kpB wd nx d p ts) nx p ts d)/\Cgd (fun b=>b=w2.heap.size\/b=gm) w3 w4:=by
  rcases hb:(kpB wd nx d p ts) with _ | _
  · obtain⟨rfl,L⟩:=hno hb
    refine⟨_,some ⟨gm,0,none⟩,ms.length,c,d,ta,ts.length,tc,nx,rfl,rfl,(L.block _ (Ze HT3.out).2.2.2.2.2.2).trans HT3.out,rfl,rfl,rfl,rfl,fun W' h1 h2=>?_,Zbz (HKT.out.step L.size (fun b _ hb2=>L.block b hb2)) (by have:=HSW.out;omega),ZhG L⟩
    have:=(Zcy (D:=w2.heap.size) (ZaC HDR.out (fun b _ hb=>L.block b hb)) (w':=W') h1 h2 HDG.out.1 HDG.out.2).view
    rw [HDS.out.1] at this
    exact this
  · obtain⟨rfl,g,c2,va,vc,h1,h2,h3,h4⟩:=hyes hb
    rw [HDS.out.1] at h2
    rw [HDS.out.2] at h1
    exact⟨_,_,_,c2,_,va,_,vc,_,rfl,rfl,h1,by simp [ZgJ],rfl,rfl,rfl,h2,Zbz h3 (by have:=HBW.out.size;have:=HSZ.out;omega),h4⟩
 clear hno hyes HGG
 obtain⟨r,a,n,c2,dd,va,m3,c3,nn,rfl,hr4,t4,hn4,hd4,hm4,hx4,hview,hkt,hch⟩:=hX
 have hz4:=hch.2.2.2.1
 have hz3:=HBW.out.size
 have tr4:=(hch.2.2.2.2 (w.heap.size+1) (by omega) (fun hq=>by have:=HCT.out.2.1;rcases hq with hq | hq <;> omega)).trans ((HBW.out.block (w.heap.size+1) (by omega)).trans HTR.out)
 obtain⟨e0,e1,e2,e3,e4,-,-⟩:=Ze t4
 obtain⟨r0,r1,r2,r3,r4,rf,hrl⟩:=Ze tr4
 have rf0:=rf 0
 have rf1:=rf 1
 have rf2:=rf 2
 have rf3:=rf 3
 have rf4:=rf 4
 have t5:_=some (Obj.cells #[.int .i64 wd,.slice a n c2,.int .i64 dd,.slice va m3 c3,.int .i64 nn] 52):=ZbW tr4
 obtain⟨q0,q1,q2,q3,q4,-,-⟩:=Ze t5
 obtain⟨wz,hwz⟩:∃wz,((((w4.setCell ⟨w.heap.size+1,0,none⟩ (.int .i64 wd)).setCell ⟨w.heap.size+1,1,none⟩ (.slice a n c2)).setCell ⟨w.heap.size+1,2,none⟩ (.int .i64 dd)).setCell ⟨w.heap.size+1,3,none⟩ (.slice va m3 c3)).setCell ⟨w.heap.size+1,4,none⟩ (.int .i64 nn)=wz:=⟨_,rfl⟩
 have far:∀b,b≠w.heap.size+1->wz.heap[b]? =w4.heap[b]? :=fun b hb=>by rw [<-hwz];exact Zbw hb
 have hsw:wz.heap.size=w4.heap.size:=by rw [<-hwz];simp [World.setCell]
 have L4:Below w.heap.size w w4:=(HB.out.trans (Below.mono HBW.out (by omega))).trans (hch.below (by omega) (fun b hb=>by have:=HCT.out.2.1;rcases hb with hb | hb <;> omega))
 have BZ:Below w.heap.size w wz:=by
  have ho:w.heap.size<=w.heap.size+1:=by omega
  rw [<-hwz];exact (((((L4.setCell (p:=⟨w.heap.size+1,0,none⟩) ho _).setCell (p:=⟨w.heap.size+1,1,none⟩) ho _).setCell (p:=⟨w.heap.size+1,2,none⟩) ho _).setCell (p:=⟨w.heap.size+1,3,none⟩) ho _).setCell (p:=⟨w.heap.size+1,4,none⟩) ho _)
 have hmvz:Zq wz a (ZgJ (kpB wd nx d p ts) ms nx p):=hview wz (by omega) (fun b hb _ _=>far b (by omega))
 have hwvz:Zz true wz va (ZhF (kpB wd nx d p ts) nx p ts d):=hkt wz (by omega) (fun b hb _=>far b (by omega))
 have HZ:Hid (Zq wz a (ZgJ (kpB wd nx d p ts) ms nx p)/\Zz true wz va (ZhF (kpB wd nx d p ts) nx p ts d)/\Below w.heap.size w wz):=⟨hmvz,hwvz,BZ⟩
 have HWZ:=Za hwz
 have HEQ:=Za (And.intro hr4 (And.intro hn4 (And.intro hd4 (And.intro hm4 hx4))))
 clear hr4 hn4 hd4 hm4 hx4 hkt t4 tr4 rf t5 far hsw L4 BZ hmvz hwvz hwz hview hch HDR HT3 HCT HBW HTR HW3
 go_wp2_with fail
 refine bodyPost_ret (v:=.tuple #[.agg #[.int .i64 wd,.slice a n c2,.int .i64 dd,.slice va m3 c3,.int .i64 nn],.int .i64 r]) (by simp [results,Tryz.results37,go_sem,q0,q1,q2,q3,q4]) rfl ?_
 rw [HWZ.out]
 obtain⟨g1,g2,g3,g4,g5⟩:=HEQ.out
 rw [g1,g2,g3,g4,g5]
 exact⟨_,rfl,⟨_,_,_,_,rfl,HZ.out.1,HZ.out.2.1⟩,HZ.out.2.2⟩
theorem ZiH(v:Bool)(am aw:Option Addr)(cm cw:Nat)(wd:Int)(ms:List Mk)(d:Int)(ts:List Wb)(nx:Int)(ap:Option Addr)(cp:Nat)(p:List Int)(w:World)(hm:Zq w am ms)(hv:Zz v w aw ts)(hsm:Z5 ms ts)(hst:stB wd ms d ts nx=false):
 Calls Tryz.prog 37 #[.agg #[.int .i64 wd,.slice am ms.length cm,.int .i64 d,.slice aw ts.length cw,.int .i64 nx],.slice ap p.length cp] w fun e w'=>e=.returned (.tuple #[.agg #[.int .i64 0,.slice none 0 0,.int .i64 0,.slice none 0 0,.int .i64 0],.int .i64 (-1)])/\Below w.heap.size w w':=by
 obtain⟨W1,hW1⟩:∃W,w.alloc (.cells #[.int .i64 wd,.slice am ms.length cm,.int .i64 d,.slice aw ts.length cw,.int .i64 nx] 52)=W:=⟨_,rfl⟩
 have hB1:Below w.heap.size w W1:=by rw [<-hW1];exact (Below.refl _ _).alloc (Nat.le_refl _) _
 have hI1:Z7 v W1 w.heap.size am aw cm cw wd ms d ts nx:=by rw [<-hW1];exact Z7.box hm hv
 obtain⟨W,hW⟩:∃W,W1.alloc (.cells #[.int .i64 0,.slice none 0 0,.int .i64 0,.slice none 0 0,.int .i64 0] 52)=W:=⟨_,rfl⟩
 have hB2:Below W1.heap.size W1 W:=by rw [<-hW];exact (Below.refl _ _).alloc (Nat.le_refl _) _
 have s1:W1.heap.size=w.heap.size+1:=by rw [<-hW1];simp
 have TR:W.heap[w.heap.size+1]? =some (.cells #[.int .i64 0,.slice none 0 0,.int .i64 0,.slice none 0 0,.int .i64 0] 52):=by rw [<-hW,<-s1];exact heap_alloc_new W1 _
 have hI:=hI1.below hB2
 have HB:=Za (Zd hB1 hB2)
 have HTR:=Za TR
 have HC:=Za (ZcS v am aw cm cw wd ms d ts nx W hI.mv hI.wv hsm)
 rw [hst] at HC
 have k0:=hI.c0
 have k1:=hI.c1
 have k2:=hI.c2
 have k3:=hI.c3
 have k4:=hI.c4
 have HWW:Hid ((w.alloc (.cells #[.int .i64 wd,.slice am ms.length cm,.int .i64 d,.slice aw ts.length cw,.int .i64 nx] 52)).alloc (.cells #[.int .i64 0,.slice none 0 0,.int .i64 0,.slice none 0 0,.int .i64 0] 52)=W):=by show _=_;rw [hW1,hW]
 clear hm hv hB1 hI1 hB2 TR hI s1 hW hW1 hsm hst
 go_enter Tryz.func37,Tryz.ntmps37
 go_upto_region 1 with fail
 rw [HWW.out]
 clear HWW
 go_wp2_with fail
 refine HC.out.mono ?_
 rintro e w1 ⟨rfl,L1⟩
 obtain⟨r0,r1,r2,r3,r4,rf,hrl⟩:=Ze ((L1.block _ (Ze HTR.out).2.2.2.2.2.2).trans HTR.out)
 have rf0:=rf 0
 have rf1:=rf 1
 have rf2:=rf 2
 have rf3:=rf 3
 have rf4:=rf 4
 have HB1:=Za (Zd HB.out L1)
 clear L1 rf k0 k1 k2 k3 k4
 go_wp2_with fail
 refine bodyPost_ret (v:=.tuple #[.agg #[.int .i64 0,.slice none 0 0,.int .i64 0,.slice none 0 0,.int .i64 0],.int .i64 (-1)]) (by simp [results,Tryz.results37,go_sem,r0,r1,r2,r3,r4]) rfl ?_
 have ho:w.heap.size<=w.heap.size+1:=by omega
 exact⟨rfl,(((((HB1.out.setCell (p:=⟨w.heap.size+1,0,none⟩) ho _).setCell (p:=⟨w.heap.size+1,1,none⟩) ho _).setCell (p:=⟨w.heap.size+1,2,none⟩) ho _).setCell (p:=⟨w.heap.size+1,3,none⟩) ho _).setCell (p:=⟨w.heap.size+1,4,none⟩) ho _)⟩
theorem ZdV{m:Mk}{ts:List Wb}{d:Int}(hok:ZZ d ts=true)(h:Zb2 m ts d=true):Zn ((Zl ts 0).1++[m])=true:=
 Zfa h 0 (by have:=(Zda (Zdw hok)).2.1;omega)
theorem ZlK{m:Mk}{ts:List Wb}{d:Int}(hok:ZZ d ts=true)(h:Zb2 m ts d=true):okB m.2=true:=by
 have h2:=((ZG _ _).1 (ZM (ZdV hok h) (i:=(Zl ts 0).1.length) (by simp))).2.2.1
 have e:mat ((Zl ts 0).1++[m]) (Zl ts 0).1.length=m.2:=by simp [mat,List.getD]
 rw [e] at h2
 exact h2
theorem Zdy{wd:Int}{ms:List Mk}{d:Int}{ts:List Wb}{nx:Int}(h:stB wd ms d ts nx=true):ms.length<=(Zl ts 0).1.length:=by
 obtain⟨h1,_,_,h4⟩:=ZaD h
 have hl:(ms.map (·.1)).length<=(Zl ts 0).1.length:=by
  refine Zeh ?_ (fun x hx=>?_)
  · refine List.pairwise_iff_getElem.2 (fun i j hi hj hij e=>?_)
    rw [List.length_map] at hi hj
    have e1:mid ms i=mid ms j:=by simpa [mid,List.getD,hi,hj] using e
    have a:=(Zam h1 hi).2
    have b:=(Zam h1 hj).2
    rw [e1] at a
    omega
  · obtain⟨m,hm,rfl⟩:=List.mem_map.1 hx
    rw [Zan,List.all_eq_true] at h4
    exact (Zbg.1 (h4 m hm)).1
 rw [List.length_map] at hl
 exact hl
theorem ZiI{base base':Nat}{w:World}{g c:Nat}{xs:List Int}(h:ZF base w g c xs)(hb:base'<=base):ZF base' w g c xs:=⟨h.1,h.2.imp id fun ⟨g,cap,cur,h1,h2,h3⟩=>⟨g,cap,cur,h1,Nat.le_trans hb h2,h3⟩⟩
def OwK(lo hi:Nat)(w:World)(g:Nat)(vt:Value)(ms:List Mk)(ts:List Wb):Prop:=∃ds F,Zj ds=ms/\ZL lo w g ms.length ds/\TsO true F w vt ts/\(∀b,FtM g ds b->lo<=b/\b<hi/\¬F b)/\∀b,F b->lo<=b/\b<hi
theorem Zf7{base:Nat}{w w':World}{g c:Nat}{ds:List Dm}(h:ZL base w g c ds)(e:∀b,FtM g ds b->w'.heap[b]? =w.heap[b]?):ZL base w' g c ds:=
 ⟨Zaa h.1 (e g (Or.inl rfl)),fun d hd=>⟨(h.2.1 d hd).1.same (e d.2.1 (by
  obtain⟨i,hi,rfl⟩:=List.getElem_of_mem hd
  exact Or.inr ⟨i,hi,by simp [Zk,List.getD,hi]⟩)),(h.2.1 d hd).2⟩,h.2.2⟩
theorem OwK.sm{lo hi:Nat}{w w':World}{g:Nat}{vt:Value}{ms:List Mk}{ts:List Wb}(h:OwK lo hi w g vt ms ts)(hs:w.heap.size<=w'.heap.size)(e:∀b,lo<=b->b<hi->w'.heap[b]? =w.heap[b]?):OwK lo hi w' g vt ms ts:=by
 obtain⟨ds,F,h1,h2,h3,h4,h5⟩:=h
 exact⟨ds,F,h1,Zf7 h2 (fun b hb=>e b (h4 b hb).1 (h4 b hb).2.1),h3.sm ⟨hs,fun b hb=>e b (h5 b hb).1 (h5 b hb).2⟩,h4,h5⟩
theorem ZhH{base:Nat}{w:World}{g c:Nat}{ds:List Dm}(h:ZL base w g c ds):ZbP base w g c ds:=by
 have hm:∀i,i<ds.length->Zk ds i∈ds:=fun i hi=>by
  have e:Zk ds i=ds[i]:=by simp [Zk,List.getD,hi]
  rw [e];exact List.getElem_mem hi
 refine⟨h.1,fun i hi=>(h.2.1 _ (hm i hi)).1,fun i hi=>(h.2.1 _ (hm i hi)).2,fun i j hi hj hne=>?_⟩
 have hp:=List.pairwise_iff_getElem.1 h.2.2
 have ei:Zk ds i=ds[i]:=by simp [Zk,List.getD,hi]
 have ej:Zk ds j=ds[j]:=by simp [Zk,List.getD,hj]
 rw [ei,ej]
 rcases Nat.lt_or_ge i j with e | e
 · have:=hp i j hi hj e;omega
 · have:=hp j i hj hi (by omega);omega
theorem ZdW{base:Nat}{w:World}{g:Nat}{vt:Value}{ms:List Mk}{ts:List Wb}(h:ZlL base w g vt ms ts)(hmb:Zn ms=true):∃ta tc,vt=.slice ta ts.length tc/\OwK base w.heap.size w g (.slice ta ts.length tc) ms ts:=by
 obtain⟨G,cc,lo,F,hop,htw,hF,hFg⟩:=h
 obtain⟨ta,tc,rfl,-,-⟩:=htw.view
 have h60:=ZA hmb
 have hmo:=hop.own (by unfold maxLen;omega)
 obtain⟨-,-,hft,hfl,-⟩:=ZlM hop hmb
 refine⟨ta,tc,rfl,ZaO ms G cc,F,ZbA ms G cc,⟨hmo.row,fun x hx=>?_,?_⟩,htw,fun b hb=>?_,fun b hb=>⟨(hF b hb).1,htw.bnd b hb⟩⟩
 · obtain⟨i,hi,rfl⟩:=List.getElem_of_mem hx
   have e:(ZaO ms G cc)[i]=Zk (ZaO ms G cc) i:=by simp [Zk,List.getD,hi]
   rw [e]
   exact⟨hmo.rows i hi,hmo.off i hi⟩
 · refine List.pairwise_iff_getElem.2 (fun i j hi hj hij=>?_)
   have e:(ZaO ms G cc)[i]=Zk (ZaO ms G cc) i:=by simp [Zk,List.getD,hi]
   have e':(ZaO ms G cc)[j]=Zk (ZaO ms G cc) j:=by simp [Zk,List.getD,hj]
   have hl:=Zbb ms G cc
   rw [e,e',ZbF (by omega),ZbF (by omega)]
   exact hop.rise i j hij (by omega)
 · have h1:=hft b hb
   have h2:=(Zb7 hmo b hb).1
   refine⟨h2,hfl b hb,fun h=>?_⟩
   have h3:=(hF b h).2
   rcases h1 with rfl | h1
   · exact hFg h
   · omega
theorem ZgK{base Z g c n:Nat}{w:World}{vt:Value}{G:Nat->Prop}{es:List Dm}{ms:List Mk}{ts:List Wb}(wd d nx:Int)(hd:ZL base w g c es)(hes:Zj es=ms)(hn:n=ms.length)(h60:ms.length<=60)(hat:∀x∈ms,x.2.length<=4)(ht:TsO true G w vt ts)(hF:∀b,FtM g es b->Z<=b/\¬G b)(hG:∀b,G b->Z<=b):
 StO true (Btw Z w.heap.size) w (.agg #[.int .i64 wd,.slice (some ⟨g,0,none⟩) n c,.int .i64 d,vt,.int .i64 nx]) wd ms d ts nx:=by
 subst hn
 have hm:=ZhH hd
 have hl:es.length=ms.length:=by rw [<-hes,Zp]
 have how:=ZdX hm (by omega) (by rw [hes];exact hat)
 rw [hl,hes] at how
 have hcap:ms.length<=c:=by
  obtain⟨-,⟨x,-⟩ | ⟨g',cap,cur,x,-,-,hcc,-⟩⟩:=hd.1
  · cases x
  · injection x with x1 x2 x3;omega
 refine StO.of wd d nx (fun _=>how) (Nat.le_trans (Zc5 _ 60 4 h60 hat) (by omega)) hcap (fun w' hs=>?_) ht (fun b hb=>hb.2) (fun b hb=>⟨(hF b hb).1,(Zb7 hm b hb).2⟩) (fun b hb=>⟨hG b hb,ht.bnd b hb⟩) (fun b hb hb'=>(hF b hb).2 hb')
 have:=(ZcB hm hs).view
 rw [hes] at this
 exact this
theorem Zb8{ms:List Mk}(h:Zn ms=true):∀x∈ms,x.2.length<=4:=fun x hx=>by
 obtain⟨i,hi,rfl⟩:=List.getElem_of_mem hx
 have:=(Zat ((ZG _ _).1 (ZM h hi)).2.2.1).2
 simpa [mat,List.getD,hi] using this
theorem ZmY(am aw:Option Addr)(cm cw:Nat)(wd:Int)(ms:List Mk)(d:Int)(ts:List Wb)(nx:Int)(ap:Option Addr)(cp:Nat)(p:List Int)(w:World)(hm:Zq w am ms)(hv:Zz true w aw ts)(hp:Zs w ap p)(hpl:p.length<=1048576)(hsm:Z5 ms ts)(hst:stB wd ms d ts nx=true):
 Calls Tryz.prog 32 #[.agg #[.int .i64 wd,.slice am ms.length cm,.int .i64 d,.slice aw ts.length cw,.int .i64 nx],.slice ap p.length cp] w fun e w'=>∃x,e=.returned (.tuple #[x,.int .i64 (Zkh (kpB wd nx d p ts) nx)])/\StO true (Btw w.heap.size w'.heap.size) w' x wd (ZgJ (kpB wd nx d p ts) ms nx p) (kpDd (kpB wd nx d p ts) nx p ts d) (ZhF (kpB wd nx d p ts) nx p ts d) (kpNx (kpB wd nx d p ts) nx)/\Below w.heap.size w w':=by
 obtain⟨hmb,hok,-,-⟩:=ZaD hst
 obtain⟨j0,hj0,hy0,hy1,hy2⟩:=info_parts Tryz.info29
 obtain⟨W1,hW1⟩:∃W,w.alloc (.cells #[.int .i64 wd,.slice am ms.length cm,.int .i64 d,.slice aw ts.length cw,.int .i64 nx] 52)=W:=⟨_,rfl⟩
 have hB1:Below w.heap.size w W1:=by rw [<-hW1];exact (Below.refl _ _).alloc (Nat.le_refl _) _
 have hI1:Z7 true W1 w.heap.size am aw cm cw wd ms d ts nx:=by rw [<-hW1];exact Z7.box hm hv
 obtain⟨W,hW⟩:∃W,W1.alloc (.cells #[.int .i64 0,.slice none 0 0,.int .i64 0,.slice none 0 0,.int .i64 0] 52)=W:=⟨_,rfl⟩
 have hB2:Below W1.heap.size W1 W:=by rw [<-hW];exact (Below.refl _ _).alloc (Nat.le_refl _) _
 have s1:W1.heap.size=w.heap.size+1:=by rw [<-hW1];simp
 have s2:W.heap.size=w.heap.size+1+1:=by rw [<-hW];simp [s1]
 have TR:W.heap[w.heap.size+1]? =some (.cells #[.int .i64 0,.slice none 0 0,.int .i64 0,.slice none 0 0,.int .i64 0] 52):=by rw [<-hW,<-s1];exact heap_alloc_new W1 _
 have hI:=hI1.below hB2
 have HB:=Za (Zd hB1 hB2)
 have HI:=Za hI
 have HTR:=Za TR
 have HSZ:=Za s2
 have HC:=Za (Zb9 am aw cm cw wd ms d ts nx W hI.mv hI.wv hsm)
 rw [hst] at HC
 have HMB:=Za hmb
 have HNB:=Za (ZdU hst)
 have HP:=Za (And.intro hp hpl)
 have HTW:=Za (And.intro hok hsm)
 have HST:=Za (Zdy hst)
 have k0:=hI.c0
 have k1:=hI.c1
 have k2:=hI.c2
 have k3:=hI.c3
 have k4:=hI.c4
 have HWW:Hid ((w.alloc (.cells #[.int .i64 wd,.slice am ms.length cm,.int .i64 d,.slice aw ts.length cw,.int .i64 nx] 52)).alloc (.cells #[.int .i64 0,.slice none 0 0,.int .i64 0,.slice none 0 0,.int .i64 0] 52)=W):=by show _=_;rw [hW1,hW]
 clear hp hpl hm hv hB1 hI1 hB2 TR hI s1 s2 hW hW1 hok hmb hsm hst
 go_enter Tryz.func32,Tryz.ntmps32
 go_upto_region 1 with fail
 rw [HWW.out]
 clear HWW
 go_wp2_with fail
 refine HC.out.mono ?_
 rintro e W0 ⟨rfl,L1⟩
 clear k0 k1 k2 k3 k4 HC
 have HI1:=Za (HI.out.below L1)
 have HL1:=Za L1
 have W0z:=L1.size
 have HOS:Hid (∀W',Below W0.heap.size W0 W'->Calls Tryz.prog 128 #[.agg #[.int .i64 wd,.slice am ms.length cm,.int .i64 d,.slice aw ts.length cw,.int .i64 nx]] W' fun e w'=>∃g vt,e=.returned (.agg #[.int .i64 wd,.slice (some ⟨g,0,none⟩) ms.length ms.length,.int .i64 d,vt,.int .i64 nx])/\ZlL W'.heap.size w' g vt ms ts/\Below W'.heap.size W' w'):=fun W' L'=>Zf8 true am aw cm cw wd ms d ts nx W' (HI1.out.below L').mv (HI1.out.below L').wv HMB.out HTW.out.1 HTW.out.2
 have HS0:Hid (∀W',Below W0.heap.size W0 W'->W'.cell? ⟨w.heap.size,0,none⟩=some (.int .i64 wd)/\W'.cell? ⟨w.heap.size,1,none⟩=some (.slice am ms.length cm)/\W'.cell? ⟨w.heap.size,2,none⟩=some (.int .i64 d)/\W'.cell? ⟨w.heap.size,3,none⟩=some (.slice aw ts.length cw)/\W'.cell? ⟨w.heap.size,4,none⟩=some (.int .i64 nx)):=fun W' L'=>⟨(HI1.out.below L').c0,(HI1.out.below L').c1,(HI1.out.below L').c2,(HI1.out.below L').c3,(HI1.out.below L').c4⟩
 have BL0:=Za ((Below.refl W0.heap.size W0).drew)
 clear L1
 go_upto_region 3 with fail
 go_cut [6,7] from 14 to 19 (fun v b wx=>∃Ob Mb g ta tc lo hi,v=.pointer (some ⟨Ob,0,none⟩)/\b=.pointer (some ⟨Mb,0,none⟩)/\wx.heap[Ob]? =some (.cells #[.int .i64 wd,.slice (some ⟨g,0,none⟩) ms.length ms.length,.int .i64 d,.slice ta ts.length tc,.int .i64 nx] 52)/\Two wx Mb (.int .i64 nx) (.slice ap p.length cp) 29/\OwK lo hi wx g (.slice ta ts.length tc) ms ts/\(W0.heap.size<=lo/\lo<=hi/\hi<=wx.heap.size/\W0.heap.size<=Ob/\W0.heap.size<=Mb/\Ob≠Mb/\¬(lo<=Ob/\Ob<hi)/\¬(lo<=Mb/\Mb<hi))/\Below W0.heap.size W0 wx)
 case first=>
  refine Zt (S:=fun W'=>Below W0.heap.size W0 W') (fuel:=5) [0,2,3,4,5] (by kernel_rfl) (by kernel_rfl) (by kernel_rfl) (by kernel_rfl) BL0.out (fun _=>?_)
  iterate 5 (refine⟨_,rfl,?_⟩;apply Exists.intro;refine⟨Or.inl ⟨by rfl,fun w' hw'=>?_⟩,?_⟩;(focus (obtain⟨e1,e2,e3,e4,e5⟩:=HS0.out w' hw';first | (go_simp;done) | (go_simp;with_reducible rfl)));simp only [Act.put,List.getElem_toArray,List.getElem_cons_succ,List.getElem_cons_zero,List.setIfInBounds_toArray,List.set_cons_zero,List.set_cons_succ])
  obtain⟨u0,hv0⟩:∃w0,W0.drew=w0:=⟨_,rfl⟩
  have Bu0:Below W0.heap.size W0 u0:=by rw [<-hv0];exact BL0.out
  have zu0:W0.heap.size<=u0.heap.size:=by rw [<-hv0];exact Nat.le_refl _
  rw [hv0]
  clear hv0
  refine ZdO 1 6 7 (by kernel_rfl) rfl rfl rfl (fun K hK=>?_) (fun K hK=>?_) (fun K hK=>?_)
  · go_simp
    refine (HOS.out u0 Bu0).mono ?_
    rintro e u1 ⟨g,tt,rfl,hown,Lu1⟩
    obtain⟨ta,tc,rfl,hok0⟩:=ZdW hown HMB.out
    obtain⟨lo,hi,hlo,hhi,hok⟩:∃lo hi,(u0.heap.size<=lo/\lo<=hi)/\hi<=u1.heap.size/\OwK lo hi u1 g (.slice ta ts.length tc) ms ts:=⟨_,_,⟨Nat.le_refl _,Lu1.size⟩,Nat.le_refl _,hok0⟩
    have zu1:=Lu1.size
    have Bu1:=Zd Bu0 Lu1
    refine hK.out _ _ Bu1 (fun _=>?_)
    clear hK K Lu1 hown hok0
    refine ZD 6 7 (by kernel_rfl) rfl rfl (fun K hK=>?_) (fun K hK=>?_)
    · go_simp
      obtain⟨u2,hu2⟩:∃w0,u1.alloc (.cells #[.int .i64 0,.slice none 0 0,.int .i64 0,.slice none 0 0,.int .i64 0] 52)=w0:=⟨_,rfl⟩
      have Lu2:Below u1.heap.size u1 u2:=by rw [<-hu2];exact (Below.refl _ _).alloc (Nat.le_refl _) _
      obtain⟨Ob,hOb⟩:∃q,u1.heap.size=q:=⟨_,rfl⟩
      have hO:u2.heap[Ob]? =some (.cells #[.int .i64 0,.slice none 0 0,.int .i64 0,.slice none 0 0,.int .i64 0] 52):=by rw [<-hu2,<-hOb];exact heap_alloc_new u1 _
      have zu2:u1.heap.size<u2.heap.size:=by rw [<-hu2];simp
      have zOb:u1.heap.size<=Ob/\Ob<u2.heap.size:=by omega
      first | rw [hu2] | skip
      first | rw [hOb] | skip
      have Bu2:=Zd Bu1 Lu2
      replace hok:=hok.sm (w':=u2) (by omega) (fun b _ h2=>Lu2.block b (by omega))
      refine hK.out _ _ Bu2 (fun _=>?_)
      clear hK K Lu2 hu2 hOb
      refine Zc 7 (by kernel_rfl) rfl (fun K hK=>?_)
      go_simp
      obtain⟨u3,hu3⟩:∃w0,u2.alloc (.cells #[.int .i64 0,.slice none 0 0] 29)=w0:=⟨_,rfl⟩
      have Lu3:Below u2.heap.size u2 u3:=by rw [<-hu3];exact (Below.refl _ _).alloc (Nat.le_refl _) _
      obtain⟨Mb,hMb⟩:∃q,u2.heap.size=q:=⟨_,rfl⟩
      have hM:Two u3 Mb (.int .i64 0) (.slice none 0 0) 29:=by rw [<-hu3,<-hMb];exact Two.new u2 _ _ _
      have zu3:u2.heap.size<u3.heap.size:=by rw [<-hu3];simp
      have zMb:u2.heap.size<=Mb/\Mb<u3.heap.size:=by omega
      first | rw [hu3] | skip
      first | rw [hMb] | skip
      have Bu3:=Zd Bu2 Lu3
      replace hO:=(Lu3.block Ob (by omega)).trans hO
      replace hok:=hok.sm (w':=u3) (by omega) (fun b _ h2=>Lu3.block b (by omega))
      refine hK.out _ _ Bu3 (fun _=>?_)
      clear hK K Lu3 hu3 hMb
      refine Zc 8 (by kernel_rfl) rfl (fun K hK=>?_)
      obtain⟨r0,r1,r2,r3,r4,rf,hrl⟩:=Ze hO
      have rf0:=rf 0
      have rf1:=rf 1
      have rf2:=rf 2
      have rf3:=rf 3
      have rf4:=rf 4
      have t6:_=some (Obj.cells #[.int .i64 wd,.slice (some ⟨g,0,none⟩) ms.length ms.length,.int .i64 d,.slice ta ts.length tc,.int .i64 nx] 52):=Zae hO
      go_simp
      obtain⟨u4,hu4⟩:∃u4,((((u3.setCell ⟨Ob,0,none⟩ (.int .i64 wd)).setCell ⟨Ob,1,none⟩ (.slice (some ⟨g,0,none⟩) ms.length ms.length)).setCell ⟨Ob,2,none⟩ (.int .i64 d)).setCell ⟨Ob,3,none⟩ (.slice ta ts.length tc)).setCell ⟨Ob,4,none⟩ (.int .i64 nx)=u4:=⟨_,rfl⟩
      have far:∀b,b≠Ob->u4.heap[b]? =u3.heap[b]? :=fun b hb=>by rw [<-hu4];exact Zaf hb
      have zu4:u3.heap.size<=u4.heap.size/\u4.heap.size<=u3.heap.size:=by rw [<-hu4];simp [World.setCell]
      have ho:W0.heap.size<=Ob:=by have:=W0z;omega
      have Bu4:Below W0.heap.size W0 u4:=by rw [<-hu4];exact (((((Bu3.setCell (p:=⟨Ob,0,none⟩) ho _).setCell (p:=⟨Ob,1,none⟩) ho _).setCell (p:=⟨Ob,2,none⟩) ho _).setCell (p:=⟨Ob,3,none⟩) ho _).setCell (p:=⟨Ob,4,none⟩) ho _)
      rw [hu4] at t6
      replace hO:=t6
      replace hok:=hok.sm (w':=u4) (by omega) (fun b h1 h2=>far b (by omega))
      replace hM:Two u4 Mb (.int .i64 0) (.slice none 0 0) 29:=(far Mb (by omega)).trans hM
      first | rw [hu4] | skip
      have ho0:=ho
      clear ho
      refine hK.out _ _ Bu4 (fun _=>?_)
      clear hK K hu4 t6 rf r0 r1 r2 r3 r4 rf0 rf1 rf2 rf3 rf4 far hrl
      refine Zc 9 (by kernel_rfl) rfl (fun K hK=>?_)
      have x0:=hM.c0
      have x1:=hM.c1
      have xf0:=hM.frozen 0
      have xf1:=hM.frozen 1
      go_simp
      obtain⟨u5,hu5⟩:∃wz,(u4.setCell ⟨Mb,0,none⟩ (.int .i64 nx)).setCell ⟨Mb,1,none⟩ (.slice ap p.length cp)=wz:=⟨_,rfl⟩
      have far:∀b,b≠Mb->u5.heap[b]? =u4.heap[b]? :=fun b hb=>by rw [<-hu5];exact (Below.heap_setCell _ ⟨Mb,1,none⟩ _ b (fun e=>hb e)).trans (Below.heap_setCell _ ⟨Mb,0,none⟩ _ b (fun e=>hb e))
      have zu5:u4.heap.size<=u5.heap.size/\u5.heap.size<=u4.heap.size:=by rw [<-hu5,Zb,Zb];omega
      have ho:W0.heap.size<=Mb:=by have:=W0z;omega
      have Bu5:Below W0.heap.size W0 u5:=by rw [<-hu5];exact (Bu4.setCell (p:=⟨Mb,0,none⟩) ho _).setCell (p:=⟨Mb,1,none⟩) ho _
      replace hO:u5.heap[Ob]? =some (.cells #[.int .i64 wd,.slice (some ⟨g,0,none⟩) ms.length ms.length,.int .i64 d,.slice ta ts.length tc,.int .i64 nx] 52):=(far Ob (by omega)).trans hO
      replace hok:=hok.sm (w':=u5) (by omega) (fun b h1 h2=>far b (by omega))
      replace hM:Two u5 Mb (.int .i64 nx) (.slice ap p.length cp) 29:=by rw [<-hu5];exact (hM.set0 _).set1 _
      first | rw [hu5] | skip
      refine hK.out _ _ Bu5 (fun _=>?_)
      clear hK K hu5 x0 x1 xf0 xf1
      refine wpAnyH_done (by kernel_rfl) ?_ _
      refine NoPanic.normal ?_
      try simp only [Exit.then]
      go_wp2_with fail
      go_meet
      exact⟨Ob,Mb,g,ta,tc,lo,hi,rfl,rfl,hO,hM,hok,⟨by omega,by omega,by omega,ho0,ho,by omega,by omega,by omega⟩,Bu5⟩
    · go_simp
      obtain⟨u2,hu2⟩:∃w0,u1.alloc (.cells #[.int .i64 0,.slice none 0 0] 29)=w0:=⟨_,rfl⟩
      have Lu2:Below u1.heap.size u1 u2:=by rw [<-hu2];exact (Below.refl _ _).alloc (Nat.le_refl _) _
      obtain⟨Mb,hMb⟩:∃q,u1.heap.size=q:=⟨_,rfl⟩
      have hM:Two u2 Mb (.int .i64 0) (.slice none 0 0) 29:=by rw [<-hu2,<-hMb];exact Two.new u1 _ _ _
      have zu2:u1.heap.size<u2.heap.size:=by rw [<-hu2];simp
      have zMb:u1.heap.size<=Mb/\Mb<u2.heap.size:=by omega
      first | rw [hu2] | skip
      first | rw [hMb] | skip
      have Bu2:=Zd Bu1 Lu2
      replace hok:=hok.sm (w':=u2) (by omega) (fun b _ h2=>Lu2.block b (by omega))
      refine hK.out _ _ Bu2 (fun _=>?_)
      clear hK K Lu2 hu2 hMb
      refine Zc 6 (by kernel_rfl) rfl (fun K hK=>?_)
      go_simp
      obtain⟨u3,hu3⟩:∃w0,u2.alloc (.cells #[.int .i64 0,.slice none 0 0,.int .i64 0,.slice none 0 0,.int .i64 0] 52)=w0:=⟨_,rfl⟩
      have Lu3:Below u2.heap.size u2 u3:=by rw [<-hu3];exact (Below.refl _ _).alloc (Nat.le_refl _) _
      obtain⟨Ob,hOb⟩:∃q,u2.heap.size=q:=⟨_,rfl⟩
      have hO:u3.heap[Ob]? =some (.cells #[.int .i64 0,.slice none 0 0,.int .i64 0,.slice none 0 0,.int .i64 0] 52):=by rw [<-hu3,<-hOb];exact heap_alloc_new u2 _
      have zu3:u2.heap.size<u3.heap.size:=by rw [<-hu3];simp
      have zOb:u2.heap.size<=Ob/\Ob<u3.heap.size:=by omega
      first | rw [hu3] | skip
      first | rw [hOb] | skip
      have Bu3:=Zd Bu2 Lu3
      replace hM:=hM.below Lu3
      replace hok:=hok.sm (w':=u3) (by omega) (fun b _ h2=>Lu3.block b (by omega))
      refine hK.out _ _ Bu3 (fun _=>?_)
      clear hK K Lu3 hu3 hOb
      refine Zc 8 (by kernel_rfl) rfl (fun K hK=>?_)
      obtain⟨r0,r1,r2,r3,r4,rf,hrl⟩:=Ze hO
      have rf0:=rf 0
      have rf1:=rf 1
      have rf2:=rf 2
      have rf3:=rf 3
      have rf4:=rf 4
      have t6:_=some (Obj.cells #[.int .i64 wd,.slice (some ⟨g,0,none⟩) ms.length ms.length,.int .i64 d,.slice ta ts.length tc,.int .i64 nx] 52):=Zae hO
      go_simp
      obtain⟨u4,hu4⟩:∃u4,((((u3.setCell ⟨Ob,0,none⟩ (.int .i64 wd)).setCell ⟨Ob,1,none⟩ (.slice (some ⟨g,0,none⟩) ms.length ms.length)).setCell ⟨Ob,2,none⟩ (.int .i64 d)).setCell ⟨Ob,3,none⟩ (.slice ta ts.length tc)).setCell ⟨Ob,4,none⟩ (.int .i64 nx)=u4:=⟨_,rfl⟩
      have far:∀b,b≠Ob->u4.heap[b]? =u3.heap[b]? :=fun b hb=>by rw [<-hu4];exact Zaf hb
      have zu4:u3.heap.size<=u4.heap.size/\u4.heap.size<=u3.heap.size:=by rw [<-hu4];simp [World.setCell]
      have ho:W0.heap.size<=Ob:=by have:=W0z;omega
      have Bu4:Below W0.heap.size W0 u4:=by rw [<-hu4];exact (((((Bu3.setCell (p:=⟨Ob,0,none⟩) ho _).setCell (p:=⟨Ob,1,none⟩) ho _).setCell (p:=⟨Ob,2,none⟩) ho _).setCell (p:=⟨Ob,3,none⟩) ho _).setCell (p:=⟨Ob,4,none⟩) ho _)
      rw [hu4] at t6
      replace hO:=t6
      replace hok:=hok.sm (w':=u4) (by omega) (fun b h1 h2=>far b (by omega))
      replace hM:Two u4 Mb (.int .i64 0) (.slice none 0 0) 29:=(far Mb (by omega)).trans hM
      first | rw [hu4] | skip
      have ho0:=ho
      clear ho
      refine hK.out _ _ Bu4 (fun _=>?_)
      clear hK K hu4 t6 rf r0 r1 r2 r3 r4 rf0 rf1 rf2 rf3 rf4 far hrl
      refine Zc 9 (by kernel_rfl) rfl (fun K hK=>?_)
      have x0:=hM.c0
      have x1:=hM.c1
      have xf0:=hM.frozen 0
      have xf1:=hM.frozen 1
      go_simp
      obtain⟨u5,hu5⟩:∃wz,(u4.setCell ⟨Mb,0,none⟩ (.int .i64 nx)).setCell ⟨Mb,1,none⟩ (.slice ap p.length cp)=wz:=⟨_,rfl⟩
      have far:∀b,b≠Mb->u5.heap[b]? =u4.heap[b]? :=fun b hb=>by rw [<-hu5];exact (Below.heap_setCell _ ⟨Mb,1,none⟩ _ b (fun e=>hb e)).trans (Below.heap_setCell _ ⟨Mb,0,none⟩ _ b (fun e=>hb e))
      have zu5:u4.heap.size<=u5.heap.size/\u5.heap.size<=u4.heap.size:=by rw [<-hu5,Zb,Zb];omega
      have ho:W0.heap.size<=Mb:=by have:=W0z;omega
      have Bu5:Below W0.heap.size W0 u5:=by rw [<-hu5];exact (Bu4.setCell (p:=⟨Mb,0,none⟩) ho _).setCell (p:=⟨Mb,1,none⟩) ho _
      replace hO:u5.heap[Ob]? =some (.cells #[.int .i64 wd,.slice (some ⟨g,0,none⟩) ms.length ms.length,.int .i64 d,.slice ta ts.length tc,.int .i64 nx] 52):=(far Ob (by omega)).trans hO
      replace hok:=hok.sm (w':=u5) (by omega) (fun b h1 h2=>far b (by omega))
      replace hM:Two u5 Mb (.int .i64 nx) (.slice ap p.length cp) 29:=by rw [<-hu5];exact (hM.set0 _).set1 _
      first | rw [hu5] | skip
      refine hK.out _ _ Bu5 (fun _=>?_)
      clear hK K hu5 x0 x1 xf0 xf1
      refine wpAnyH_done (by kernel_rfl) ?_ _
      refine NoPanic.normal ?_
      try simp only [Exit.then]
      go_wp2_with fail
      go_meet
      exact⟨Ob,Mb,g,ta,tc,lo,hi,rfl,rfl,hO,hM,hok,⟨by omega,by omega,by omega,ho0,ho,by omega,by omega,by omega⟩,Bu5⟩
  · go_simp
    obtain⟨u1,hu1⟩:∃w0,u0.alloc (.cells #[.int .i64 0,.slice none 0 0,.int .i64 0,.slice none 0 0,.int .i64 0] 52)=w0:=⟨_,rfl⟩
    have Lu1:Below u0.heap.size u0 u1:=by rw [<-hu1];exact (Below.refl _ _).alloc (Nat.le_refl _) _
    obtain⟨Ob,hOb⟩:∃q,u0.heap.size=q:=⟨_,rfl⟩
    have hO:u1.heap[Ob]? =some (.cells #[.int .i64 0,.slice none 0 0,.int .i64 0,.slice none 0 0,.int .i64 0] 52):=by rw [<-hu1,<-hOb];exact heap_alloc_new u0 _
    have zu1:u0.heap.size<u1.heap.size:=by rw [<-hu1];simp
    have zOb:u0.heap.size<=Ob/\Ob<u1.heap.size:=by omega
    first | rw [hu1] | skip
    first | rw [hOb] | skip
    have Bu1:=Zd Bu0 Lu1
    refine hK.out _ _ Bu1 (fun _=>?_)
    clear hK K Lu1 hu1 hOb
    refine ZD 1 7 (by kernel_rfl) rfl rfl (fun K hK=>?_) (fun K hK=>?_)
    · go_simp
      refine (HOS.out u1 Bu1).mono ?_
      rintro e u2 ⟨g,tt,rfl,hown,Lu2⟩
      obtain⟨ta,tc,rfl,hok0⟩:=ZdW hown HMB.out
      obtain⟨lo,hi,hlo,hhi,hok⟩:∃lo hi,(u1.heap.size<=lo/\lo<=hi)/\hi<=u2.heap.size/\OwK lo hi u2 g (.slice ta ts.length tc) ms ts:=⟨_,_,⟨Nat.le_refl _,Lu2.size⟩,Nat.le_refl _,hok0⟩
      have zu2:=Lu2.size
      have Bu2:=Zd Bu1 Lu2
      replace hO:=(Lu2.block Ob (by omega)).trans hO
      refine hK.out _ _ Bu2 (fun _=>?_)
      clear hK K Lu2 hown hok0
      refine Zc 7 (by kernel_rfl) rfl (fun K hK=>?_)
      go_simp
      obtain⟨u3,hu3⟩:∃w0,u2.alloc (.cells #[.int .i64 0,.slice none 0 0] 29)=w0:=⟨_,rfl⟩
      have Lu3:Below u2.heap.size u2 u3:=by rw [<-hu3];exact (Below.refl _ _).alloc (Nat.le_refl _) _
      obtain⟨Mb,hMb⟩:∃q,u2.heap.size=q:=⟨_,rfl⟩
      have hM:Two u3 Mb (.int .i64 0) (.slice none 0 0) 29:=by rw [<-hu3,<-hMb];exact Two.new u2 _ _ _
      have zu3:u2.heap.size<u3.heap.size:=by rw [<-hu3];simp
      have zMb:u2.heap.size<=Mb/\Mb<u3.heap.size:=by omega
      first | rw [hu3] | skip
      first | rw [hMb] | skip
      have Bu3:=Zd Bu2 Lu3
      replace hO:=(Lu3.block Ob (by omega)).trans hO
      replace hok:=hok.sm (w':=u3) (by omega) (fun b _ h2=>Lu3.block b (by omega))
      refine hK.out _ _ Bu3 (fun _=>?_)
      clear hK K Lu3 hu3 hMb
      refine Zc 8 (by kernel_rfl) rfl (fun K hK=>?_)
      obtain⟨r0,r1,r2,r3,r4,rf,hrl⟩:=Ze hO
      have rf0:=rf 0
      have rf1:=rf 1
      have rf2:=rf 2
      have rf3:=rf 3
      have rf4:=rf 4
      have t6:_=some (Obj.cells #[.int .i64 wd,.slice (some ⟨g,0,none⟩) ms.length ms.length,.int .i64 d,.slice ta ts.length tc,.int .i64 nx] 52):=Zae hO
      go_simp
      obtain⟨u4,hu4⟩:∃u4,((((u3.setCell ⟨Ob,0,none⟩ (.int .i64 wd)).setCell ⟨Ob,1,none⟩ (.slice (some ⟨g,0,none⟩) ms.length ms.length)).setCell ⟨Ob,2,none⟩ (.int .i64 d)).setCell ⟨Ob,3,none⟩ (.slice ta ts.length tc)).setCell ⟨Ob,4,none⟩ (.int .i64 nx)=u4:=⟨_,rfl⟩
      have far:∀b,b≠Ob->u4.heap[b]? =u3.heap[b]? :=fun b hb=>by rw [<-hu4];exact Zaf hb
      have zu4:u3.heap.size<=u4.heap.size/\u4.heap.size<=u3.heap.size:=by rw [<-hu4];simp [World.setCell]
      have ho:W0.heap.size<=Ob:=by have:=W0z;omega
      have Bu4:Below W0.heap.size W0 u4:=by rw [<-hu4];exact (((((Bu3.setCell (p:=⟨Ob,0,none⟩) ho _).setCell (p:=⟨Ob,1,none⟩) ho _).setCell (p:=⟨Ob,2,none⟩) ho _).setCell (p:=⟨Ob,3,none⟩) ho _).setCell (p:=⟨Ob,4,none⟩) ho _)
      rw [hu4] at t6
      replace hO:=t6
      replace hok:=hok.sm (w':=u4) (by omega) (fun b h1 h2=>far b (by omega))
      replace hM:Two u4 Mb (.int .i64 0) (.slice none 0 0) 29:=(far Mb (by omega)).trans hM
      first | rw [hu4] | skip
      have ho0:=ho
      clear ho
      refine hK.out _ _ Bu4 (fun _=>?_)
      clear hK K hu4 t6 rf r0 r1 r2 r3 r4 rf0 rf1 rf2 rf3 rf4 far hrl
      refine Zc 9 (by kernel_rfl) rfl (fun K hK=>?_)
      have x0:=hM.c0
      have x1:=hM.c1
      have xf0:=hM.frozen 0
      have xf1:=hM.frozen 1
      go_simp
      obtain⟨u5,hu5⟩:∃wz,(u4.setCell ⟨Mb,0,none⟩ (.int .i64 nx)).setCell ⟨Mb,1,none⟩ (.slice ap p.length cp)=wz:=⟨_,rfl⟩
      have far:∀b,b≠Mb->u5.heap[b]? =u4.heap[b]? :=fun b hb=>by rw [<-hu5];exact (Below.heap_setCell _ ⟨Mb,1,none⟩ _ b (fun e=>hb e)).trans (Below.heap_setCell _ ⟨Mb,0,none⟩ _ b (fun e=>hb e))
      have zu5:u4.heap.size<=u5.heap.size/\u5.heap.size<=u4.heap.size:=by rw [<-hu5,Zb,Zb];omega
      have ho:W0.heap.size<=Mb:=by have:=W0z;omega
      have Bu5:Below W0.heap.size W0 u5:=by rw [<-hu5];exact (Bu4.setCell (p:=⟨Mb,0,none⟩) ho _).setCell (p:=⟨Mb,1,none⟩) ho _
      replace hO:u5.heap[Ob]? =some (.cells #[.int .i64 wd,.slice (some ⟨g,0,none⟩) ms.length ms.length,.int .i64 d,.slice ta ts.length tc,.int .i64 nx] 52):=(far Ob (by omega)).trans hO
      replace hok:=hok.sm (w':=u5) (by omega) (fun b h1 h2=>far b (by omega))
      replace hM:Two u5 Mb (.int .i64 nx) (.slice ap p.length cp) 29:=by rw [<-hu5];exact (hM.set0 _).set1 _
      first | rw [hu5] | skip
      refine hK.out _ _ Bu5 (fun _=>?_)
      clear hK K hu5 x0 x1 xf0 xf1
      refine wpAnyH_done (by kernel_rfl) ?_ _
      refine NoPanic.normal ?_
      try simp only [Exit.then]
      go_wp2_with fail
      go_meet
      exact⟨Ob,Mb,g,ta,tc,lo,hi,rfl,rfl,hO,hM,hok,⟨by omega,by omega,by omega,ho0,ho,by omega,by omega,by omega⟩,Bu5⟩
    · go_simp
      obtain⟨u2,hu2⟩:∃w0,u1.alloc (.cells #[.int .i64 0,.slice none 0 0] 29)=w0:=⟨_,rfl⟩
      have Lu2:Below u1.heap.size u1 u2:=by rw [<-hu2];exact (Below.refl _ _).alloc (Nat.le_refl _) _
      obtain⟨Mb,hMb⟩:∃q,u1.heap.size=q:=⟨_,rfl⟩
      have hM:Two u2 Mb (.int .i64 0) (.slice none 0 0) 29:=by rw [<-hu2,<-hMb];exact Two.new u1 _ _ _
      have zu2:u1.heap.size<u2.heap.size:=by rw [<-hu2];simp
      have zMb:u1.heap.size<=Mb/\Mb<u2.heap.size:=by omega
      first | rw [hu2] | skip
      first | rw [hMb] | skip
      have Bu2:=Zd Bu1 Lu2
      replace hO:=(Lu2.block Ob (by omega)).trans hO
      refine hK.out _ _ Bu2 (fun _=>?_)
      clear hK K Lu2 hu2 hMb
      refine Zc 1 (by kernel_rfl) rfl (fun K hK=>?_)
      go_simp
      refine (HOS.out u2 Bu2).mono ?_
      rintro e u3 ⟨g,tt,rfl,hown,Lu3⟩
      obtain⟨ta,tc,rfl,hok0⟩:=ZdW hown HMB.out
      obtain⟨lo,hi,hlo,hhi,hok⟩:∃lo hi,(u2.heap.size<=lo/\lo<=hi)/\hi<=u3.heap.size/\OwK lo hi u3 g (.slice ta ts.length tc) ms ts:=⟨_,_,⟨Nat.le_refl _,Lu3.size⟩,Nat.le_refl _,hok0⟩
      have zu3:=Lu3.size
      have Bu3:=Zd Bu2 Lu3
      replace hO:=(Lu3.block Ob (by omega)).trans hO
      replace hM:=hM.below Lu3
      refine hK.out _ _ Bu3 (fun _=>?_)
      clear hK K Lu3 hown hok0
      refine Zc 8 (by kernel_rfl) rfl (fun K hK=>?_)
      obtain⟨r0,r1,r2,r3,r4,rf,hrl⟩:=Ze hO
      have rf0:=rf 0
      have rf1:=rf 1
      have rf2:=rf 2
      have rf3:=rf 3
      have rf4:=rf 4
      have t6:_=some (Obj.cells #[.int .i64 wd,.slice (some ⟨g,0,none⟩) ms.length ms.length,.int .i64 d,.slice ta ts.length tc,.int .i64 nx] 52):=Zae hO
      go_simp
      obtain⟨u4,hu4⟩:∃u4,((((u3.setCell ⟨Ob,0,none⟩ (.int .i64 wd)).setCell ⟨Ob,1,none⟩ (.slice (some ⟨g,0,none⟩) ms.length ms.length)).setCell ⟨Ob,2,none⟩ (.int .i64 d)).setCell ⟨Ob,3,none⟩ (.slice ta ts.length tc)).setCell ⟨Ob,4,none⟩ (.int .i64 nx)=u4:=⟨_,rfl⟩
      have far:∀b,b≠Ob->u4.heap[b]? =u3.heap[b]? :=fun b hb=>by rw [<-hu4];exact Zaf hb
      have zu4:u3.heap.size<=u4.heap.size/\u4.heap.size<=u3.heap.size:=by rw [<-hu4];simp [World.setCell]
      have ho:W0.heap.size<=Ob:=by have:=W0z;omega
      have Bu4:Below W0.heap.size W0 u4:=by rw [<-hu4];exact (((((Bu3.setCell (p:=⟨Ob,0,none⟩) ho _).setCell (p:=⟨Ob,1,none⟩) ho _).setCell (p:=⟨Ob,2,none⟩) ho _).setCell (p:=⟨Ob,3,none⟩) ho _).setCell (p:=⟨Ob,4,none⟩) ho _)
      rw [hu4] at t6
      replace hO:=t6
      replace hok:=hok.sm (w':=u4) (by omega) (fun b h1 h2=>far b (by omega))
      replace hM:Two u4 Mb (.int .i64 0) (.slice none 0 0) 29:=(far Mb (by omega)).trans hM
      first | rw [hu4] | skip
      have ho0:=ho
      clear ho
      refine hK.out _ _ Bu4 (fun _=>?_)
      clear hK K hu4 t6 rf r0 r1 r2 r3 r4 rf0 rf1 rf2 rf3 rf4 far hrl
      refine Zc 9 (by kernel_rfl) rfl (fun K hK=>?_)
      have x0:=hM.c0
      have x1:=hM.c1
      have xf0:=hM.frozen 0
      have xf1:=hM.frozen 1
      go_simp
      obtain⟨u5,hu5⟩:∃wz,(u4.setCell ⟨Mb,0,none⟩ (.int .i64 nx)).setCell ⟨Mb,1,none⟩ (.slice ap p.length cp)=wz:=⟨_,rfl⟩
      have far:∀b,b≠Mb->u5.heap[b]? =u4.heap[b]? :=fun b hb=>by rw [<-hu5];exact (Below.heap_setCell _ ⟨Mb,1,none⟩ _ b (fun e=>hb e)).trans (Below.heap_setCell _ ⟨Mb,0,none⟩ _ b (fun e=>hb e))
      have zu5:u4.heap.size<=u5.heap.size/\u5.heap.size<=u4.heap.size:=by rw [<-hu5,Zb,Zb];omega
      have ho:W0.heap.size<=Mb:=by have:=W0z;omega
      have Bu5:Below W0.heap.size W0 u5:=by rw [<-hu5];exact (Bu4.setCell (p:=⟨Mb,0,none⟩) ho _).setCell (p:=⟨Mb,1,none⟩) ho _
      replace hO:u5.heap[Ob]? =some (.cells #[.int .i64 wd,.slice (some ⟨g,0,none⟩) ms.length ms.length,.int .i64 d,.slice ta ts.length tc,.int .i64 nx] 52):=(far Ob (by omega)).trans hO
      replace hok:=hok.sm (w':=u5) (by omega) (fun b h1 h2=>far b (by omega))
      replace hM:Two u5 Mb (.int .i64 nx) (.slice ap p.length cp) 29:=by rw [<-hu5];exact (hM.set0 _).set1 _
      first | rw [hu5] | skip
      refine hK.out _ _ Bu5 (fun _=>?_)
      clear hK K hu5 x0 x1 xf0 xf1
      refine wpAnyH_done (by kernel_rfl) ?_ _
      refine NoPanic.normal ?_
      try simp only [Exit.then]
      go_wp2_with fail
      go_meet
      exact⟨Ob,Mb,g,ta,tc,lo,hi,rfl,rfl,hO,hM,hok,⟨by omega,by omega,by omega,ho0,ho,by omega,by omega,by omega⟩,Bu5⟩
  · go_simp
    obtain⟨u1,hu1⟩:∃w0,u0.alloc (.cells #[.int .i64 0,.slice none 0 0] 29)=w0:=⟨_,rfl⟩
    have Lu1:Below u0.heap.size u0 u1:=by rw [<-hu1];exact (Below.refl _ _).alloc (Nat.le_refl _) _
    obtain⟨Mb,hMb⟩:∃q,u0.heap.size=q:=⟨_,rfl⟩
    have hM:Two u1 Mb (.int .i64 0) (.slice none 0 0) 29:=by rw [<-hu1,<-hMb];exact Two.new u0 _ _ _
    have zu1:u0.heap.size<u1.heap.size:=by rw [<-hu1];simp
    have zMb:u0.heap.size<=Mb/\Mb<u1.heap.size:=by omega
    first | rw [hu1] | skip
    first | rw [hMb] | skip
    have Bu1:=Zd Bu0 Lu1
    refine hK.out _ _ Bu1 (fun _=>?_)
    clear hK K Lu1 hu1 hMb
    refine ZD 1 6 (by kernel_rfl) rfl rfl (fun K hK=>?_) (fun K hK=>?_)
    · go_simp
      refine (HOS.out u1 Bu1).mono ?_
      rintro e u2 ⟨g,tt,rfl,hown,Lu2⟩
      obtain⟨ta,tc,rfl,hok0⟩:=ZdW hown HMB.out
      obtain⟨lo,hi,hlo,hhi,hok⟩:∃lo hi,(u1.heap.size<=lo/\lo<=hi)/\hi<=u2.heap.size/\OwK lo hi u2 g (.slice ta ts.length tc) ms ts:=⟨_,_,⟨Nat.le_refl _,Lu2.size⟩,Nat.le_refl _,hok0⟩
      have zu2:=Lu2.size
      have Bu2:=Zd Bu1 Lu2
      replace hM:=hM.below Lu2
      refine hK.out _ _ Bu2 (fun _=>?_)
      clear hK K Lu2 hown hok0
      refine Zc 6 (by kernel_rfl) rfl (fun K hK=>?_)
      go_simp
      obtain⟨u3,hu3⟩:∃w0,u2.alloc (.cells #[.int .i64 0,.slice none 0 0,.int .i64 0,.slice none 0 0,.int .i64 0] 52)=w0:=⟨_,rfl⟩
      have Lu3:Below u2.heap.size u2 u3:=by rw [<-hu3];exact (Below.refl _ _).alloc (Nat.le_refl _) _
      obtain⟨Ob,hOb⟩:∃q,u2.heap.size=q:=⟨_,rfl⟩
      have hO:u3.heap[Ob]? =some (.cells #[.int .i64 0,.slice none 0 0,.int .i64 0,.slice none 0 0,.int .i64 0] 52):=by rw [<-hu3,<-hOb];exact heap_alloc_new u2 _
      have zu3:u2.heap.size<u3.heap.size:=by rw [<-hu3];simp
      have zOb:u2.heap.size<=Ob/\Ob<u3.heap.size:=by omega
      first | rw [hu3] | skip
      first | rw [hOb] | skip
      have Bu3:=Zd Bu2 Lu3
      replace hM:=hM.below Lu3
      replace hok:=hok.sm (w':=u3) (by omega) (fun b _ h2=>Lu3.block b (by omega))
      refine hK.out _ _ Bu3 (fun _=>?_)
      clear hK K Lu3 hu3 hOb
      refine Zc 8 (by kernel_rfl) rfl (fun K hK=>?_)
      obtain⟨r0,r1,r2,r3,r4,rf,hrl⟩:=Ze hO
      have rf0:=rf 0
      have rf1:=rf 1
      have rf2:=rf 2
      have rf3:=rf 3
      have rf4:=rf 4
      have t6:_=some (Obj.cells #[.int .i64 wd,.slice (some ⟨g,0,none⟩) ms.length ms.length,.int .i64 d,.slice ta ts.length tc,.int .i64 nx] 52):=Zae hO
      go_simp
      obtain⟨u4,hu4⟩:∃u4,((((u3.setCell ⟨Ob,0,none⟩ (.int .i64 wd)).setCell ⟨Ob,1,none⟩ (.slice (some ⟨g,0,none⟩) ms.length ms.length)).setCell ⟨Ob,2,none⟩ (.int .i64 d)).setCell ⟨Ob,3,none⟩ (.slice ta ts.length tc)).setCell ⟨Ob,4,none⟩ (.int .i64 nx)=u4:=⟨_,rfl⟩
      have far:∀b,b≠Ob->u4.heap[b]? =u3.heap[b]? :=fun b hb=>by rw [<-hu4];exact Zaf hb
      have zu4:u3.heap.size<=u4.heap.size/\u4.heap.size<=u3.heap.size:=by rw [<-hu4];simp [World.setCell]
      have ho:W0.heap.size<=Ob:=by have:=W0z;omega
      have Bu4:Below W0.heap.size W0 u4:=by rw [<-hu4];exact (((((Bu3.setCell (p:=⟨Ob,0,none⟩) ho _).setCell (p:=⟨Ob,1,none⟩) ho _).setCell (p:=⟨Ob,2,none⟩) ho _).setCell (p:=⟨Ob,3,none⟩) ho _).setCell (p:=⟨Ob,4,none⟩) ho _)
      rw [hu4] at t6
      replace hO:=t6
      replace hok:=hok.sm (w':=u4) (by omega) (fun b h1 h2=>far b (by omega))
      replace hM:Two u4 Mb (.int .i64 0) (.slice none 0 0) 29:=(far Mb (by omega)).trans hM
      first | rw [hu4] | skip
      have ho0:=ho
      clear ho
      refine hK.out _ _ Bu4 (fun _=>?_)
      clear hK K hu4 t6 rf r0 r1 r2 r3 r4 rf0 rf1 rf2 rf3 rf4 far hrl
      refine Zc 9 (by kernel_rfl) rfl (fun K hK=>?_)
      have x0:=hM.c0
      have x1:=hM.c1
      have xf0:=hM.frozen 0
      have xf1:=hM.frozen 1
      go_simp
      obtain⟨u5,hu5⟩:∃wz,(u4.setCell ⟨Mb,0,none⟩ (.int .i64 nx)).setCell ⟨Mb,1,none⟩ (.slice ap p.length cp)=wz:=⟨_,rfl⟩
      have far:∀b,b≠Mb->u5.heap[b]? =u4.heap[b]? :=fun b hb=>by rw [<-hu5];exact (Below.heap_setCell _ ⟨Mb,1,none⟩ _ b (fun e=>hb e)).trans (Below.heap_setCell _ ⟨Mb,0,none⟩ _ b (fun e=>hb e))
      have zu5:u4.heap.size<=u5.heap.size/\u5.heap.size<=u4.heap.size:=by rw [<-hu5,Zb,Zb];omega
      have ho:W0.heap.size<=Mb:=by have:=W0z;omega
      have Bu5:Below W0.heap.size W0 u5:=by rw [<-hu5];exact (Bu4.setCell (p:=⟨Mb,0,none⟩) ho _).setCell (p:=⟨Mb,1,none⟩) ho _
      replace hO:u5.heap[Ob]? =some (.cells #[.int .i64 wd,.slice (some ⟨g,0,none⟩) ms.length ms.length,.int .i64 d,.slice ta ts.length tc,.int .i64 nx] 52):=(far Ob (by omega)).trans hO
      replace hok:=hok.sm (w':=u5) (by omega) (fun b h1 h2=>far b (by omega))
      replace hM:Two u5 Mb (.int .i64 nx) (.slice ap p.length cp) 29:=by rw [<-hu5];exact (hM.set0 _).set1 _
      first | rw [hu5] | skip
      refine hK.out _ _ Bu5 (fun _=>?_)
      clear hK K hu5 x0 x1 xf0 xf1
      refine wpAnyH_done (by kernel_rfl) ?_ _
      refine NoPanic.normal ?_
      try simp only [Exit.then]
      go_wp2_with fail
      go_meet
      exact⟨Ob,Mb,g,ta,tc,lo,hi,rfl,rfl,hO,hM,hok,⟨by omega,by omega,by omega,ho0,ho,by omega,by omega,by omega⟩,Bu5⟩
    · go_simp
      obtain⟨u2,hu2⟩:∃w0,u1.alloc (.cells #[.int .i64 0,.slice none 0 0,.int .i64 0,.slice none 0 0,.int .i64 0] 52)=w0:=⟨_,rfl⟩
      have Lu2:Below u1.heap.size u1 u2:=by rw [<-hu2];exact (Below.refl _ _).alloc (Nat.le_refl _) _
      obtain⟨Ob,hOb⟩:∃q,u1.heap.size=q:=⟨_,rfl⟩
      have hO:u2.heap[Ob]? =some (.cells #[.int .i64 0,.slice none 0 0,.int .i64 0,.slice none 0 0,.int .i64 0] 52):=by rw [<-hu2,<-hOb];exact heap_alloc_new u1 _
      have zu2:u1.heap.size<u2.heap.size:=by rw [<-hu2];simp
      have zOb:u1.heap.size<=Ob/\Ob<u2.heap.size:=by omega
      first | rw [hu2] | skip
      first | rw [hOb] | skip
      have Bu2:=Zd Bu1 Lu2
      replace hM:=hM.below Lu2
      refine hK.out _ _ Bu2 (fun _=>?_)
      clear hK K Lu2 hu2 hOb
      refine Zc 1 (by kernel_rfl) rfl (fun K hK=>?_)
      go_simp
      refine (HOS.out u2 Bu2).mono ?_
      rintro e u3 ⟨g,tt,rfl,hown,Lu3⟩
      obtain⟨ta,tc,rfl,hok0⟩:=ZdW hown HMB.out
      obtain⟨lo,hi,hlo,hhi,hok⟩:∃lo hi,(u2.heap.size<=lo/\lo<=hi)/\hi<=u3.heap.size/\OwK lo hi u3 g (.slice ta ts.length tc) ms ts:=⟨_,_,⟨Nat.le_refl _,Lu3.size⟩,Nat.le_refl _,hok0⟩
      have zu3:=Lu3.size
      have Bu3:=Zd Bu2 Lu3
      replace hO:=(Lu3.block Ob (by omega)).trans hO
      replace hM:=hM.below Lu3
      refine hK.out _ _ Bu3 (fun _=>?_)
      clear hK K Lu3 hown hok0
      refine Zc 8 (by kernel_rfl) rfl (fun K hK=>?_)
      obtain⟨r0,r1,r2,r3,r4,rf,hrl⟩:=Ze hO
      have rf0:=rf 0
      have rf1:=rf 1
      have rf2:=rf 2
      have rf3:=rf 3
      have rf4:=rf 4
      have t6:_=some (Obj.cells #[.int .i64 wd,.slice (some ⟨g,0,none⟩) ms.length ms.length,.int .i64 d,.slice ta ts.length tc,.int .i64 nx] 52):=Zae hO
      go_simp
      obtain⟨u4,hu4⟩:∃u4,((((u3.setCell ⟨Ob,0,none⟩ (.int .i64 wd)).setCell ⟨Ob,1,none⟩ (.slice (some ⟨g,0,none⟩) ms.length ms.length)).setCell ⟨Ob,2,none⟩ (.int .i64 d)).setCell ⟨Ob,3,none⟩ (.slice ta ts.length tc)).setCell ⟨Ob,4,none⟩ (.int .i64 nx)=u4:=⟨_,rfl⟩
      have far:∀b,b≠Ob->u4.heap[b]? =u3.heap[b]? :=fun b hb=>by rw [<-hu4];exact Zaf hb
      have zu4:u3.heap.size<=u4.heap.size/\u4.heap.size<=u3.heap.size:=by rw [<-hu4];simp [World.setCell]
      have ho:W0.heap.size<=Ob:=by have:=W0z;omega
      have Bu4:Below W0.heap.size W0 u4:=by rw [<-hu4];exact (((((Bu3.setCell (p:=⟨Ob,0,none⟩) ho _).setCell (p:=⟨Ob,1,none⟩) ho _).setCell (p:=⟨Ob,2,none⟩) ho _).setCell (p:=⟨Ob,3,none⟩) ho _).setCell (p:=⟨Ob,4,none⟩) ho _)
      rw [hu4] at t6
      replace hO:=t6
      replace hok:=hok.sm (w':=u4) (by omega) (fun b h1 h2=>far b (by omega))
      replace hM:Two u4 Mb (.int .i64 0) (.slice none 0 0) 29:=(far Mb (by omega)).trans hM
      first | rw [hu4] | skip
      have ho0:=ho
      clear ho
      refine hK.out _ _ Bu4 (fun _=>?_)
      clear hK K hu4 t6 rf r0 r1 r2 r3 r4 rf0 rf1 rf2 rf3 rf4 far hrl
      refine Zc 9 (by kernel_rfl) rfl (fun K hK=>?_)
      have x0:=hM.c0
      have x1:=hM.c1
      have xf0:=hM.frozen 0
      have xf1:=hM.frozen 1
      go_simp
      obtain⟨u5,hu5⟩:∃wz,(u4.setCell ⟨Mb,0,none⟩ (.int .i64 nx)).setCell ⟨Mb,1,none⟩ (.slice ap p.length cp)=wz:=⟨_,rfl⟩
      have far:∀b,b≠Mb->u5.heap[b]? =u4.heap[b]? :=fun b hb=>by rw [<-hu5];exact (Below.heap_setCell _ ⟨Mb,1,none⟩ _ b (fun e=>hb e)).trans (Below.heap_setCell _ ⟨Mb,0,none⟩ _ b (fun e=>hb e))
      have zu5:u4.heap.size<=u5.heap.size/\u5.heap.size<=u4.heap.size:=by rw [<-hu5,Zb,Zb];omega
      have ho:W0.heap.size<=Mb:=by have:=W0z;omega
      have Bu5:Below W0.heap.size W0 u5:=by rw [<-hu5];exact (Bu4.setCell (p:=⟨Mb,0,none⟩) ho _).setCell (p:=⟨Mb,1,none⟩) ho _
      replace hO:u5.heap[Ob]? =some (.cells #[.int .i64 wd,.slice (some ⟨g,0,none⟩) ms.length ms.length,.int .i64 d,.slice ta ts.length tc,.int .i64 nx] 52):=(far Ob (by omega)).trans hO
      replace hok:=hok.sm (w':=u5) (by omega) (fun b h1 h2=>far b (by omega))
      replace hM:Two u5 Mb (.int .i64 nx) (.slice ap p.length cp) 29:=by rw [<-hu5];exact (hM.set0 _).set1 _
      first | rw [hu5] | skip
      refine hK.out _ _ Bu5 (fun _=>?_)
      clear hK K hu5 x0 x1 xf0 xf1
      refine wpAnyH_done (by kernel_rfl) ?_ _
      refine NoPanic.normal ?_
      try simp only [Exit.then]
      go_wp2_with fail
      go_meet
      exact⟨Ob,Mb,g,ta,tc,lo,hi,rfl,rfl,hO,hM,hok,⟨by omega,by omega,by omega,ho0,ho,by omega,by omega,by omega⟩,Bu5⟩
 case rest=>
  obtain⟨Ob,Mb,g,ta,tc,lo,hi,rfl,rfl,hO,hM,hok,hnum,L3⟩:=hcut
  generalize hwc:wc=wo at *
  clear hwc wc
  have hI3:=HI1.out.below L3
  have k0:=hI3.c0
  have k1:=hI3.c1
  have k2:=hI3.c2
  have k3:=hI3.c3
  have k4:=hI3.c4
  have m0:=hM.c0
  have m1:=hM.c1
  have HB3:=Za (Zd (Zd HB.out HL1.out) L3)
  have HTR3:Hid (wo.heap[w.heap.size+1]? =some (.cells #[.int .i64 0,.slice none 0 0,.int .i64 0,.slice none 0 0,.int .i64 0] 52)):=((Zd HL1.out L3).block _ (by have:=HSZ.out;omega)).trans HTR.out
  have HZ:Hid (w.heap.size+1+1<=W0.heap.size/\W0.heap.size<=wo.heap.size/\Ob<wo.heap.size/\Mb<wo.heap.size):=⟨by have:=HSZ.out;omega,L3.size,(Ze hO).2.2.2.2.2.2,hM.lt⟩
  obtain⟨LD,hLD⟩:∃L,Zcg (nx,p) ts d=L:=⟨_,rfl⟩
  obtain⟨LT,hLT⟩:∃L,ZaI (nx,p) ts d=L:=⟨_,rfl⟩
  obtain⟨rr,hrr⟩:∃b,Zb2 (nx,p) ts d=b:=⟨_,rfl⟩
  have HR:Hid (Calls Tryz.prog 14 #[.agg #[.int .i64 d,.slice aw ts.length cw],.agg #[.int .i64 nx,.slice ap p.length cp]] wo fun e w'=>∃va vc,e=.returned (.tuple #[.agg #[.int .i64 LD,.slice va LT.length vc],.bool rr])/\TsO true (Btw wo.heap.size w'.heap.size) w' (.slice va LT.length vc) LT/\Below wo.heap.size wo w'):=by
   show Calls _ _ _ _ _
   refine (Zlw aw ap cw cp d ts (nx,p) wo hI3.wv (HP.out.1.next HB3.out) HP.out.2 HTW.out.1 HTW.out.2.2.1).mono ?_
   rintro e w' ⟨vt,rfl,⟨S,vm,vl,ht⟩,L2⟩
   obtain⟨a',c',rfl,-⟩:=ht.form
   rw [hLD,hrr]
   rw [hLT] at ht ⊢
   exact⟨a',c',rfl,ht.out,L2⟩
  have HLX:=Za (And.intro hLD (And.intro hLT hrr))
  have HK3:=Za hI3
  have HO3:=Za hO
  have HM3:=Za hM
  have HOK3:=Za hok
  have HN3:=Za hnum
  clear hM hok L3 hO hLD hLT hrr hI3 hnum HOS HS0 BL0 W0z
  go_wp2_with fail
  refine HR.out.mono ?_
  rintro e w4 ⟨va,vc,rfl,ht4,L4⟩
  obtain⟨w5,hw5⟩:∃w5,w4.alloc (.cells #[.int .i64 LD,.slice va LT.length vc] 26)=w5:=⟨_,rfl⟩
  have L5:Below w4.heap.size w4 w5:=by rw [<-hw5];exact (Below.refl _ _).alloc (Nat.le_refl _) _
  have HZ5:Hid (w5.heap.size=w4.heap.size+1/\wo.heap.size<=w4.heap.size):=⟨by rw [<-hw5];simp,L4.size⟩
  have HT5:Hid (Two w5 w4.heap.size (.int .i64 LD) (.slice va LT.length vc) 26):=by show Two _ _ _ _ _;rw [<-hw5];exact Two.new w4 _ _ _
  have HX5:=Za (ht4.next L5)
  have HL5:=Za (Zd L4 L5)
  have HW5:=Za hw5
  clear ht4 L4 L5 hw5 HR
  go_upto_region 5 with fail
  rw [HW5.out]
  clear k0 k1 k2 k3 k4 m0 m1
  have hI5:=HK3.out.below HL5.out
  have k0:=hI5.c0
  have k1:=hI5.c1
  have k2:=hI5.c2
  have k3:=hI5.c3
  have k4:=hI5.c4
  clear hI5
  rcases rr with _ | _
  · have HNO:Hid (kpB wd nx d p ts=false):=by show _=_;unfold kpB;rw [HLX.out.2.2];simp
    have hz:=HZ.out
    have hn3:=HN3.out
    have hl:=HL5.out.size
    have tO:w5.heap[Ob]? =some (.cells #[.int .i64 wd,.slice (some ⟨g,0,none⟩) ms.length ms.length,.int .i64 d,.slice ta ts.length tc,.int .i64 nx] 52):=(HL5.out.block Ob (by omega)).trans HO3.out
    obtain⟨f0,f1,f2,f3,f4,-,-⟩:=Ze tO
    have tr:w5.heap[w.heap.size+1]? =some (.cells #[.int .i64 0,.slice none 0 0,.int .i64 0,.slice none 0 0,.int .i64 0] 52):=(HL5.out.block _ (by omega)).trans HTR3.out
    obtain⟨r0,r1,r2,r3,r4,rf,hrl⟩:=Ze tr
    have rf0:=rf 0
    have rf1:=rf 1
    have rf2:=rf 2
    have rf3:=rf 3
    have rf4:=rf 4
    have t6:_=some (Obj.cells #[.int .i64 wd,.slice (some ⟨g,0,none⟩) ms.length ms.length,.int .i64 d,.slice ta ts.length tc,.int .i64 nx] 52):=Zae tr
    obtain⟨q0,q1,q2,q3,q4,-,-⟩:=Ze t6
    obtain⟨wz,hwz⟩:∃wz,((((w5.setCell ⟨w.heap.size+1,0,none⟩ (.int .i64 wd)).setCell ⟨w.heap.size+1,1,none⟩ (.slice (some ⟨g,0,none⟩) ms.length ms.length)).setCell ⟨w.heap.size+1,2,none⟩ (.int .i64 d)).setCell ⟨w.heap.size+1,3,none⟩ (.slice ta ts.length tc)).setCell ⟨w.heap.size+1,4,none⟩ (.int .i64 nx)=wz:=⟨_,rfl⟩
    have far:∀b,b≠w.heap.size+1->wz.heap[b]? =w5.heap[b]? :=fun b hb=>by rw [<-hwz];exact Zaf hb
    have hsw:wz.heap.size=w5.heap.size:=by rw [<-hwz];simp [World.setCell]
    have ho:w.heap.size<=w.heap.size+1:=by omega
    have BZ:Below w.heap.size w wz:=by
     rw [<-hwz]
     have hb:=Zd HB3.out HL5.out
     exact (((((hb.setCell (p:=⟨w.heap.size+1,0,none⟩) ho _).setCell (p:=⟨w.heap.size+1,1,none⟩) ho _).setCell (p:=⟨w.heap.size+1,2,none⟩) ho _).setCell (p:=⟨w.heap.size+1,3,none⟩) ho _).setCell (p:=⟨w.heap.size+1,4,none⟩) ho _)
    have hst:StO true (Btw w.heap.size wz.heap.size) wz (.agg #[.int .i64 wd,.slice (some ⟨g,0,none⟩) ms.length ms.length,.int .i64 d,.slice ta ts.length tc,.int .i64 nx]) wd ms d ts nx:=by
     obtain⟨ds,F,h1,h2,h3,h4,h5⟩:=HOK3.out.sm (w':=wz) (by omega) (fun b hb1 hb2=>(far b (by omega)).trans (HL5.out.block b (by omega)))
     exact ZgK wd d nx h2 h1 rfl (ZA HMB.out) (Zb8 HMB.out) h3 (fun b hb=>⟨by have:=(h4 b hb).1;omega,(h4 b hb).2.2⟩) (fun b hb=>by have:=(h5 b hb).1;omega)
    have HST7:=Za (And.intro hst BZ)
    have HWZ:=Za hwz
    clear hst BZ far hsw hwz tr t6 rf tO hz hn3 hl ho hrl
    go_wp2_with fail
    refine bodyPost_ret (v:=.tuple #[.agg #[.int .i64 wd,.slice (some ⟨g,0,none⟩) ms.length ms.length,.int .i64 d,.slice ta ts.length tc,.int .i64 nx],.int .i64 (-1)]) (by simp [results,Tryz.results32,go_sem,q0,q1,q2,q3,q4]) rfl ?_
    rw [HWZ.out,HNO.out]
    exact⟨_,rfl,HST7.out.1,HST7.out.2⟩
  have HOKP:=Za (ZlK HTW.out.1 HLX.out.2.2)
  have HA:=Za (Zjv ms.length ts.length am aw ap cm cw cp p.length wd d nx w5)
  by_cases hlw:¬(p.length:Int)=wd
  · have HNO:Hid (kpB wd nx d p ts=false):=by show _=_;unfold kpB;rw [decide_eq_false hlw];simp
    rw [decide_eq_false hlw] at HA
    go_wp2_with fail
    refine HA.out.mono ?_
    rintro e w6 ⟨rfl,L6⟩
    have HL6:=Za (Zd HL5.out L6)
    clear L6 k0 k1 k2 k3 k4
    have hz:=HZ.out
    have hn3:=HN3.out
    have hl:=HL6.out.size
    have tO:w6.heap[Ob]? =some (.cells #[.int .i64 wd,.slice (some ⟨g,0,none⟩) ms.length ms.length,.int .i64 d,.slice ta ts.length tc,.int .i64 nx] 52):=(HL6.out.block Ob (by omega)).trans HO3.out
    obtain⟨f0,f1,f2,f3,f4,-,-⟩:=Ze tO
    have tr:w6.heap[w.heap.size+1]? =some (.cells #[.int .i64 0,.slice none 0 0,.int .i64 0,.slice none 0 0,.int .i64 0] 52):=(HL6.out.block _ (by omega)).trans HTR3.out
    obtain⟨r0,r1,r2,r3,r4,rf,hrl⟩:=Ze tr
    have rf0:=rf 0
    have rf1:=rf 1
    have rf2:=rf 2
    have rf3:=rf 3
    have rf4:=rf 4
    have t6:_=some (Obj.cells #[.int .i64 wd,.slice (some ⟨g,0,none⟩) ms.length ms.length,.int .i64 d,.slice ta ts.length tc,.int .i64 nx] 52):=Zae tr
    obtain⟨q0,q1,q2,q3,q4,-,-⟩:=Ze t6
    obtain⟨wz,hwz⟩:∃wz,((((w6.setCell ⟨w.heap.size+1,0,none⟩ (.int .i64 wd)).setCell ⟨w.heap.size+1,1,none⟩ (.slice (some ⟨g,0,none⟩) ms.length ms.length)).setCell ⟨w.heap.size+1,2,none⟩ (.int .i64 d)).setCell ⟨w.heap.size+1,3,none⟩ (.slice ta ts.length tc)).setCell ⟨w.heap.size+1,4,none⟩ (.int .i64 nx)=wz:=⟨_,rfl⟩
    have far:∀b,b≠w.heap.size+1->wz.heap[b]? =w6.heap[b]? :=fun b hb=>by rw [<-hwz];exact Zaf hb
    have hsw:wz.heap.size=w6.heap.size:=by rw [<-hwz];simp [World.setCell]
    have ho:w.heap.size<=w.heap.size+1:=by omega
    have BZ:Below w.heap.size w wz:=by
     rw [<-hwz]
     have hb:=Zd HB3.out HL6.out
     exact (((((hb.setCell (p:=⟨w.heap.size+1,0,none⟩) ho _).setCell (p:=⟨w.heap.size+1,1,none⟩) ho _).setCell (p:=⟨w.heap.size+1,2,none⟩) ho _).setCell (p:=⟨w.heap.size+1,3,none⟩) ho _).setCell (p:=⟨w.heap.size+1,4,none⟩) ho _)
    have hst:StO true (Btw w.heap.size wz.heap.size) wz (.agg #[.int .i64 wd,.slice (some ⟨g,0,none⟩) ms.length ms.length,.int .i64 d,.slice ta ts.length tc,.int .i64 nx]) wd ms d ts nx:=by
     obtain⟨ds,F,h1,h2,h3,h4,h5⟩:=HOK3.out.sm (w':=wz) (by omega) (fun b hb1 hb2=>(far b (by omega)).trans (HL6.out.block b (by omega)))
     exact ZgK wd d nx h2 h1 rfl (ZA HMB.out) (Zb8 HMB.out) h3 (fun b hb=>⟨by have:=(h4 b hb).1;omega,(h4 b hb).2.2⟩) (fun b hb=>by have:=(h5 b hb).1;omega)
    have HST7:=Za (And.intro hst BZ)
    have HWZ:=Za hwz
    clear hst BZ far hsw hwz tr t6 rf tO hz hn3 hl ho hrl
    go_wp2_with fail
    refine bodyPost_ret (v:=.tuple #[.agg #[.int .i64 wd,.slice (some ⟨g,0,none⟩) ms.length ms.length,.int .i64 d,.slice ta ts.length tc,.int .i64 nx],.int .i64 (-1)]) (by simp [results,Tryz.results32,go_sem,q0,q1,q2,q3,q4]) rfl ?_
    rw [HWZ.out,HNO.out]
    exact⟨_,rfl,HST7.out.1,HST7.out.2⟩
  replace hlw:(p.length:Int)=wd:=Classical.not_not.1 hlw
  rw [decide_eq_true hlw] at HA
  by_cases hnx:nx=1000000
  · have HNO:Hid (kpB wd nx d p ts=false):=by show _=_;unfold kpB;rw [decide_eq_true hnx];simp
    have hne:(nx ==1000000)=true:=by simp;exact hnx
    clear hnx
    go_wp2_with fail
    refine HA.out.mono ?_
    rintro e w6 ⟨rfl,L6⟩
    have HL6:=Za (Zd HL5.out L6)
    have hI6:=HK3.out.below HL6.out
    replace k0:=hI6.c0
    replace k1:=hI6.c1
    replace k2:=hI6.c2
    replace k3:=hI6.c3
    replace k4:=hI6.c4
    clear L6 hI6
    have hz:=HZ.out
    have hn3:=HN3.out
    have hl:=HL6.out.size
    have tO:w6.heap[Ob]? =some (.cells #[.int .i64 wd,.slice (some ⟨g,0,none⟩) ms.length ms.length,.int .i64 d,.slice ta ts.length tc,.int .i64 nx] 52):=(HL6.out.block Ob (by omega)).trans HO3.out
    obtain⟨f0,f1,f2,f3,f4,-,-⟩:=Ze tO
    have tr:w6.heap[w.heap.size+1]? =some (.cells #[.int .i64 0,.slice none 0 0,.int .i64 0,.slice none 0 0,.int .i64 0] 52):=(HL6.out.block _ (by omega)).trans HTR3.out
    obtain⟨r0,r1,r2,r3,r4,rf,hrl⟩:=Ze tr
    have rf0:=rf 0
    have rf1:=rf 1
    have rf2:=rf 2
    have rf3:=rf 3
    have rf4:=rf 4
    have t6:_=some (Obj.cells #[.int .i64 wd,.slice (some ⟨g,0,none⟩) ms.length ms.length,.int .i64 d,.slice ta ts.length tc,.int .i64 nx] 52):=Zae tr
    obtain⟨q0,q1,q2,q3,q4,-,-⟩:=Ze t6
    obtain⟨wz,hwz⟩:∃wz,((((w6.setCell ⟨w.heap.size+1,0,none⟩ (.int .i64 wd)).setCell ⟨w.heap.size+1,1,none⟩ (.slice (some ⟨g,0,none⟩) ms.length ms.length)).setCell ⟨w.heap.size+1,2,none⟩ (.int .i64 d)).setCell ⟨w.heap.size+1,3,none⟩ (.slice ta ts.length tc)).setCell ⟨w.heap.size+1,4,none⟩ (.int .i64 nx)=wz:=⟨_,rfl⟩
    have far:∀b,b≠w.heap.size+1->wz.heap[b]? =w6.heap[b]? :=fun b hb=>by rw [<-hwz];exact Zaf hb
    have hsw:wz.heap.size=w6.heap.size:=by rw [<-hwz];simp [World.setCell]
    have ho:w.heap.size<=w.heap.size+1:=by omega
    have BZ:Below w.heap.size w wz:=by
     rw [<-hwz]
     have hb:=Zd HB3.out HL6.out
     exact (((((hb.setCell (p:=⟨w.heap.size+1,0,none⟩) ho _).setCell (p:=⟨w.heap.size+1,1,none⟩) ho _).setCell (p:=⟨w.heap.size+1,2,none⟩) ho _).setCell (p:=⟨w.heap.size+1,3,none⟩) ho _).setCell (p:=⟨w.heap.size+1,4,none⟩) ho _)
    have hst:StO true (Btw w.heap.size wz.heap.size) wz (.agg #[.int .i64 wd,.slice (some ⟨g,0,none⟩) ms.length ms.length,.int .i64 d,.slice ta ts.length tc,.int .i64 nx]) wd ms d ts nx:=by
     obtain⟨ds,F,h1,h2,h3,h4,h5⟩:=HOK3.out.sm (w':=wz) (by omega) (fun b hb1 hb2=>(far b (by omega)).trans (HL6.out.block b (by omega)))
     exact ZgK wd d nx h2 h1 rfl (ZA HMB.out) (Zb8 HMB.out) h3 (fun b hb=>⟨by have:=(h4 b hb).1;omega,(h4 b hb).2.2⟩) (fun b hb=>by have:=(h5 b hb).1;omega)
    have HST7:=Za (And.intro hst BZ)
    have HWZ:=Za hwz
    clear hst BZ far hsw hwz tr t6 rf tO hz hn3 hl ho hrl
    go_wp2_with fail
    refine bodyPost_ret (v:=.tuple #[.agg #[.int .i64 wd,.slice (some ⟨g,0,none⟩) ms.length ms.length,.int .i64 d,.slice ta ts.length tc,.int .i64 nx],.int .i64 (-1)]) (by simp [results,Tryz.results32,go_sem,q0,q1,q2,q3,q4]) rfl ?_
    rw [HWZ.out,HNO.out]
    exact⟨_,rfl,HST7.out.1,HST7.out.2⟩
  have hnn:(nx ==1000000)=false:=by simp;exact hnx
  have HYES:Hid (kpB wd nx d p ts=true):=by show _=_;unfold kpB;rw [HLX.out.2.2,HOKP.out,decide_eq_true hlw,decide_eq_false hnx];rfl
  clear hnx
  go_wp2_with fail
  refine HA.out.mono ?_
  rintro e w6 ⟨rfl,L6⟩
  have HL6:=Za (Zd HL5.out L6)
  have HL56:=Za L6
  have hI6:=HK3.out.below HL6.out
  replace k0:=hI6.c0
  replace k1:=hI6.c1
  replace k2:=hI6.c2
  replace k3:=hI6.c3
  replace k4:=hI6.c4
  clear L6 hI6
  go_upto_region 7 with fail
  clear k0 k1 k2 k3 k4
  have hz:=HZ.out
  have hn3:=HN3.out
  have hz5:=HZ5.out
  have hl6:=HL56.out.size
  have hO6:w6.heap[Ob]? =some (.cells #[.int .i64 wd,.slice (some ⟨g,0,none⟩) ms.length ms.length,.int .i64 d,.slice ta ts.length tc,.int .i64 nx] 52):=(HL6.out.block Ob (by omega)).trans HO3.out
  have hM6:=HM3.out.below HL6.out
  have HO6:=Za hO6
  have HM6:=Za hM6
  obtain⟨ds,F,hds,hdr,htF,hFt,hFb⟩:=HOK3.out.sm (w':=w6) (by omega) (fun b _ hb2=>HL6.out.block b (by omega))
  have hdl:ds.length=ms.length:=by rw [<-hds,Zp]
  have HDR:=Za (Zez hdr (show w.heap.size<=lo by omega))
  have HFT:Hid (Zj ds=ms/\ds.length=ms.length/\∀b,FtM g ds b->lo<=b/\b<hi):=⟨hds,hdl,fun b hb=>⟨(hFt b hb).1,(hFt b hb).2.1⟩⟩
  have HPL:=Za (Zat HOKP.out)
  have BS:Hid (Below w6.heap.size w6 w6.drew):=(Below.refl _ _).drew
  have HS6:Hid (∀X:World,(∀b,b<w6.heap.size->b≠g->X.heap[b]? =w6.heap[b]?)->X.cell? ⟨Ob,1,none⟩=some (.slice (some ⟨g,0,none⟩) ms.length ms.length)/\X.cell? ⟨Mb,0,none⟩=some (.int .i64 nx)/\X.cell? ⟨Mb,1,none⟩=some (.slice ap p.length cp)):=fun X hX=>by
   have hz:=HZ.out
   have hn:=HN3.out
   have hf:=HFT.out.2.2 g (Or.inl rfl)
   have h6:=HL6.out.size
   obtain⟨_,f1,_,_,_,_,_⟩:=Ze ((hX Ob (by omega) (by omega)).trans HO6.out)
   have hm:Two X Mb (.int .i64 nx) (.slice ap p.length cp) 29:=(hX Mb (by omega) (by omega)).trans HM6.out
   exact⟨f1,hm.c0,hm.c1⟩
  have HOM:Hid (∀W',Below w6.heap.size w6 W'->Calls Tryz.prog 130 #[.agg #[.int .i64 nx,.slice ap p.length cp]] W' fun e w'=>∃h c,e=.returned (.agg #[.int .i64 nx,.slice (some ⟨h,0,none⟩) p.length c])/\ZF W'.heap.size w' h c p/\Below W'.heap.size W' w'):=fun W' L'=>ZiJ (nx,ap,cp,p) W' (HP.out.1.next (Zd (Zd HB3.out HL6.out) L')) (by have:=HPL.out;show 0<p.length;omega) HP.out.2
  clear hO6 hM6 hds hdr htF hFt hFb hdl hz hn3 hz5 hl6
  refine ZT (S:=fun X=>∀b,b<w6.heap.size->b≠g->X.heap[b]? =w6.heap[b]?) (fuel:=4) [0,1,2] _ rfl (by kernel_rfl) (by kernel_rfl) (by kernel_rfl) (by kernel_rfl) (by kernel_rfl) (by kernel_rfl) (by kernel_rfl) (fun b hb _=>BS.out.block b hb) (fun hS=>?_)
  simp only [List.pop_toArray,List.dropLast]
  iterate 3 (refine⟨_,rfl,?_⟩;apply Exists.intro;refine⟨Or.inl ⟨by rfl,fun w' hw'=>?_⟩,?_⟩;(focus (obtain⟨e1,e2,e3⟩:=HS6.out w' hw';first | (go_simp;done) | (go_simp;with_reducible rfl)));simp only [Act.put,List.getElem_toArray,List.getElem_cons_succ,List.getElem_cons_zero,List.setIfInBounds_toArray,List.set_cons_zero,List.set_cons_succ])
  obtain⟨u0,hv0⟩:∃w0,w6.drew=w0:=⟨_,rfl⟩
  have Bu0:Below w6.heap.size w6 u0:=by rw [<-hv0];exact BS.out
  rw [hv0]
  clear hv0 hS
  refine Zc 3 (by kernel_rfl) rfl (fun K hK=>?_)
  go_simp
  refine (HOM.out u0 Bu0).mono ?_
  rintro e u1 ⟨hh,hc,rfl,hrow,Lu1⟩
  have Bu1:=Zd Bu0 Lu1
  have HR1:Hid (ZF u0.heap.size u1 hh hc p/\w6.heap.size<=u0.heap.size):=⟨hrow,Bu0.size⟩
  refine hK.out _ _ (fun b hb _=>Bu1.block b hb) (fun _=>?_)
  clear hK K hrow Lu1 Bu0
  refine Zc 4 (by kernel_rfl) rfl (fun K hK=>?_)
  go_simp
  obtain⟨u2,hu2⟩:∃w8,u1.alloc (.cells #[.int .i64 nx,.slice (some ⟨hh,0,none⟩) p.length hc] 29)=w8:=⟨_,rfl⟩
  have Lu2:Below u1.heap.size u1 u2:=by rw [<-hu2];exact (Below.refl _ _).alloc (Nat.le_refl _) _
  have hN2:u2.heap[u1.heap.size]? =some (.cells #[.int .i64 nx,.slice (some ⟨hh,0,none⟩) p.length hc] 29 (0,0)):=by rw [<-hu2];exact heap_alloc_new u1 _
  have zu2:u1.heap.size<u2.heap.size:=by rw [<-hu2];simp
  have Bu2:=Zd Bu1 Lu2
  have HR2:Hid (ZF u0.heap.size u2 hh hc p/\hh<u1.heap.size):=⟨HR1.out.1.below Lu2,HR1.out.1.lt.2⟩
  have HD2:Hid (ZL w.heap.size u2 g ms.length ds):=ZaC HDR.out (fun b _ h2=>Bu2.block b h2)
  have hD2r:u2.ownsRow w.heap.size 29 2 (.slice (some ⟨g,0,none⟩) ms.length ms.length) ms.length (Zu ds):=by
   have:=HD2.out.1
   rw [HFT.out.2.1] at this
   exact this
  have hml:=ZA HMB.out
  have hwu:w.heap.size<=u2.heap.size:=by have:=HZ.out;have:=HL6.out.size;have:=Bu2.size;omega
  first | rw [hu2] | skip
  refine hK.out _ _ (fun b hb _=>Bu2.block b hb) (fun _=>?_)
  clear hK K hu2
  refine Zc 5 (by kernel_rfl) rfl (fun K hK=>?_)
  refine Zi u2 rfl (.tmp 42) (.tmp 45) 44 rfl w.heap.size 29 j0 _ 2 32 Tryz.underlying44 hj0 hy0 hy1 hy2 rfl (by omega) g ms.length ms.length (Zu ds) rfl hD2r (some ⟨u1.heap.size,0,none⟩) 1 1 [.int .i64 nx,.slice (some ⟨hh,0,none⟩) p.length hc] rfl (Zc9 hN2) (by unfold maxLen;omega) (by omega) hwu u2.heap.size rfl ?_
  intro g9 c9 u3 hown hgrow hat hlt9
  have Zf:Hid (lo<=g/\g<hi/\hi<=wo.heap.size/\∀x∈ds,x.2.1<wo.heap.size):=by
   have hn:=HN3.out
   have h1:=HFT.out.2.2 g (Or.inl rfl)
   refine⟨h1.1,h1.2,by omega,fun x hx=>?_⟩
   obtain⟨i,hi',rfl⟩:=List.getElem_of_mem hx
   have:=HFT.out.2.2 _ (Or.inr ⟨i,hi',rfl⟩)
   have e:Zk ds i=ds[i]:=by simp [Zk,List.getD,hi']
   rw [e] at this
   omega
  have HR3:Hid (ZL w.heap.size u3 g9 c9 (ds++[(nx,hh,hc,p)])):=by
   have hz:=HZ.out
   have hf:=Zf.out
   have h6:=HL6.out.size
   have h0:=HR1.out.2
   have h1:=HR1.out.1.lt
   refine ZL.snoc HD2.out (ZiI HR2.out.1 (by omega)) (by omega) (fun x hx=>by have:=hf.2.2.2 x hx;omega) (by rw [HFT.out.2.1];exact hown) hgrow ?_
   rcases hat with e | e
   · exact Or.inl e.symm
   · exact Or.inr e
  have HG9:Hid (g9=g\/u2.heap.size<=g9):=by
   rcases hat with e | e
   · exact Or.inl e.symm
   · exact Or.inr (by omega)
  have Lu3:Hid (∀b,b<w6.heap.size->b≠g->u3.heap[b]? =w6.heap[b]?):=fun b hb hg=>(hgrow.block b (by have:=Bu2.size;omega) (fun e=>hg (by injection e))).trans (Bu2.block b hb)
  have HZ3:Hid (u2.heap.size<=u3.heap.size/\w6.heap.size<=u1.heap.size/\u1.heap.size<u2.heap.size):=⟨hgrow.size,Bu1.size,zu2⟩
  have HU3:Hid (u3.os=w6.os/\u3.tape=w6.tape/\u3.output=w6.output):=⟨hgrow.os.trans Bu2.os,hgrow.tape.trans Bu2.tape,hgrow.output.trans Bu2.output⟩
  have HTX3:Hid (u3.heap[w4.heap.size]? =w5.heap[w4.heap.size]?):=by
   show _=_
   have h5:=HZ5.out
   have h6:=HL56.out.size
   have hf:=Zf.out
   exact (Lu3.out _ (by omega) (by omega)).trans (HL56.out.block _ (by omega))
  refine hK.out _ _ Lu3.out (fun _=>?_)
  clear hK K hown hgrow hat hlt9 hN2 zu2 hD2r hml hwu Bu2 Lu2 Bu1
  refine Zc 6 (by kernel_rfl) rfl (fun K hK=>?_)
  go_simp
  refine hK.out _ _ Lu3.out (fun _=>?_)
  clear hK K
  refine wpAnyH_done (by kernel_rfl) ?_ _
  simp only [Exit.then]
  have HNE:Hid (Ob≠g/\Mb≠g/\Ob<w6.heap.size/\Mb<w6.heap.size/\Ob≠Mb/\Ob<wo.heap.size/\w.heap.size+1<Ob/\Ob≠w4.heap.size/\Mb≠w.heap.size+1/\w4.heap.size<u3.heap.size/\Ob<u3.heap.size/\¬(lo<=Ob/\Ob<hi)):=by
   have hz:=HZ.out
   have hn:=HN3.out
   have hf:=HFT.out.2.2 g (Or.inl rfl)
   have h6:=HL6.out.size
   have h56:=HL56.out.size
   have h3:=HZ3.out
   have h5:=HZ5.out
   refine⟨by omega,by omega,by omega,by omega,by omega,by omega,by omega,by omega,by omega,by omega,by omega,hn.2.2.2.2.2.2.1⟩
  have hO3:u3.heap[Ob]? =some (.cells #[.int .i64 wd,.slice (some ⟨g,0,none⟩) ms.length ms.length,.int .i64 d,.slice ta ts.length tc,.int .i64 nx] 52):=(Lu3.out Ob HNE.out.2.2.1 HNE.out.1).trans HO6.out
  obtain⟨f0,f1,f2,f3,f4,ff,hDl9⟩:=Ze hO3
  have ff1:=ff 1
  obtain⟨wa,hwa⟩:∃wa,u3.setCell ⟨Ob,1,none⟩ (.slice (some ⟨g9,0,none⟩) (ms.length+1) c9)=wa:=⟨_,rfl⟩
  have hOa:wa.heap[Ob]? =some (.cells #[.int .i64 wd,.slice (some ⟨g9,0,none⟩) (ms.length+1) c9,.int .i64 d,.slice ta ts.length tc,.int .i64 nx] 52):=by rw [<-hwa];exact heap_setCell_same u3 Ob 1 _ _ _ hO3
  have fara:∀b,b≠Ob->wa.heap[b]? =u3.heap[b]? :=fun b hb=>by rw [<-hwa];exact Below.heap_setCell _ ⟨Ob,1,none⟩ _ b (fun e=>hb e)
  have hsa:u3.heap.size=wa.heap.size:=by rw [<-hwa,Zb]
  have HOA:=Za hOa
  have HFA:=Za (And.intro fara hsa)
  have HWA:=Za hwa
  clear hOa fara hsa hwa
  go_wp2_with fail
  refine NoPanic.normal ?_
  first | rw [HWA.out] | skip
  clear f0 f1 f2 f3 f4 ff ff1 hO3 hDl9
  obtain⟨f0,f1,f2,f3,f4,ff,hDl9⟩:=Ze HOA.out
  have ff2:=ff 2
  have ff3:=ff 3
  have hTa:Two wa w4.heap.size (.int .i64 LD) (.slice va LT.length vc) 26:=((HFA.out.1 _ (fun e=>HNE.out.2.2.2.2.2.2.2.1 e.symm)).trans HTX3.out).trans HT5.out
  have x0:=hTa.c0
  have x1:=hTa.c1
  obtain⟨wb,hwb⟩:∃wb,(wa.setCell ⟨Ob,2,none⟩ (.int .i64 LD)).setCell ⟨Ob,3,none⟩ (.slice va LT.length vc)=wb:=⟨_,rfl⟩
  have hOb:wb.heap[Ob]? =some (.cells #[.int .i64 wd,.slice (some ⟨g9,0,none⟩) (ms.length+1) c9,.int .i64 LD,.slice va LT.length vc,.int .i64 nx] 52):=by
   rw [<-hwb]
   have h1:(wa.setCell ⟨Ob,2,none⟩ (.int .i64 LD)).heap[Ob]? =some (.cells #[.int .i64 wd,.slice (some ⟨g9,0,none⟩) (ms.length+1) c9,.int .i64 LD,.slice ta ts.length tc,.int .i64 nx] 52):=heap_setCell_same wa Ob 2 _ _ _ HOA.out
   exact heap_setCell_same _ Ob 3 _ _ _ h1
  have farb:∀b,b≠Ob->wb.heap[b]? =wa.heap[b]? :=fun b hb=>by rw [<-hwb];exact (Below.heap_setCell _ ⟨Ob,3,none⟩ _ b (fun e=>hb e)).trans (Below.heap_setCell _ ⟨Ob,2,none⟩ _ b (fun e=>hb e))
  have hsb:wa.heap.size=wb.heap.size:=by rw [<-hwb,Zb,Zb]
  have HOB:=Za hOb
  have HFB:=Za (And.intro farb hsb)
  have HWB:=Za hwb
  clear hOb farb hsb hwb ff hTa
  go_upto_region 9 with fail
  first | rw [HWB.out] | skip
  clear f0 f1 f2 f3 f4 ff2 ff3 hDl9 x0 x1
  obtain⟨f0,f1,f2,f3,f4,ff,hDl9⟩:=Ze HOB.out
  have ff4:=ff 4
  obtain⟨wc,hwc⟩:∃wc,wb.setCell ⟨Ob,4,none⟩ (.int .i64 (nx+1))=wc:=⟨_,rfl⟩
  have hOc:wc.heap[Ob]? =some (.cells #[.int .i64 wd,.slice (some ⟨g9,0,none⟩) (ms.length+1) c9,.int .i64 LD,.slice va LT.length vc,.int .i64 (nx+1)] 52):=by rw [<-hwc];exact heap_setCell_same wb Ob 4 _ _ _ HOB.out
  have farc:∀b,b≠Ob->wc.heap[b]? =u3.heap[b]? :=fun b hb=>by rw [<-hwc];exact ((Below.heap_setCell _ ⟨Ob,4,none⟩ _ b (fun e=>hb e)).trans (HFB.out.1 b hb)).trans (HFA.out.1 b hb)
  have hsc:u3.heap.size=wc.heap.size:=by rw [<-hwc,Zb];exact HFA.out.2.trans HFB.out.2
  have HOC:=Za hOc
  have HFC:=Za (And.intro farc hsc)
  have HWC:=Za hwc
  have hwr:wrap64 (nx+1)=nx+1:=by have:=HNB.out;unfold wrap64;omega
  clear hOc farc hsc hwc ff
  go_upto_region 10 with fail
  first | rw [hwr,HWC.out] | rw [HWC.out] | skip
  clear f0 f1 f2 f3 f4 ff4 hDl9
  have hM3:Two wc Mb (.int .i64 nx) (.slice ap p.length cp) 29:=(HFC.out.1 Mb (fun e=>HNE.out.2.2.2.2.1 e.symm)).trans ((Lu3.out Mb HNE.out.2.2.2.1 HNE.out.2.1).trans HM6.out)
  have HCE:Hid (∀W':World,W'.heap[Ob]? =wc.heap[Ob]? ->W'.heap[Mb]? =wc.heap[Mb]? ->(W'.cell? ⟨Ob,0,none⟩=some (.int .i64 wd)/\W'.cell? ⟨Ob,1,none⟩=some (.slice (some ⟨g9,0,none⟩) (ms.length+1) c9)/\W'.cell? ⟨Ob,2,none⟩=some (.int .i64 LD)/\W'.cell? ⟨Ob,3,none⟩=some (.slice va LT.length vc)/\W'.cell? ⟨Ob,4,none⟩=some (.int .i64 (nx+1)))/\W'.cell? ⟨Mb,0,none⟩=some (.int .i64 nx)):=fun W' h1 h2=>by
   obtain⟨i0,i1,i2,i3,i4,-,-⟩:=Ze HOC.out
   exact⟨⟨(World.cell?_of_block (a:=⟨Ob,0,none⟩) h1).trans i0,(World.cell?_of_block (a:=⟨Ob,1,none⟩) h1).trans i1,(World.cell?_of_block (a:=⟨Ob,2,none⟩) h1).trans i2,(World.cell?_of_block (a:=⟨Ob,3,none⟩) h1).trans i3,(World.cell?_of_block (a:=⟨Ob,4,none⟩) h1).trans i4⟩,(World.cell?_of_block (a:=⟨Mb,0,none⟩) h2).trans hM3.c0⟩
  clear hM3
  refine Zt (S:=fun W'=>W'.heap[Ob]? =wc.heap[Ob]? /\W'.heap[Mb]? =wc.heap[Mb]?) (fuel:=2) [0,1,2] (by kernel_rfl) (by kernel_rfl) (by kernel_rfl) (by kernel_rfl) ⟨rfl,rfl⟩ (fun _=>?_)
  iterate 3 (refine⟨_,rfl,?_⟩;apply Exists.intro;refine⟨Or.inl ⟨by rfl,fun w' hw'=>?_⟩,?_⟩;(focus (obtain⟨⟨e1,e2,e3,e4,e5⟩,e6⟩:=HCE.out w' hw'.1 hw'.2;first | (go_simp;done) | (go_simp;with_reducible rfl)));simp only [Act.put,List.getElem_toArray,List.getElem_cons_succ,List.getElem_cons_zero,List.setIfInBounds_toArray,List.set_cons_zero,List.set_cons_succ])
  obtain⟨V,hV⟩:∃V,wc.drew=V:=⟨_,rfl⟩
  have hVh:V.heap=wc.heap:=by rw [<-hV];rfl
  have HVL:Hid (Below wc.heap.size wc V):=by show Below _ _ _;rw [<-hV];exact (Below.refl _ _).drew
  rw [hV]
  clear hV
  have tr5:V.heap[w.heap.size+1]? =some (.cells #[.int .i64 0,.slice none 0 0,.int .i64 0,.slice none 0 0,.int .i64 0] 52):=by
   rw [hVh]
   have hz:=HZ.out
   have hf:=Zf.out
   have hn:=HN3.out
   have h6:=HL6.out.size
   have hne:=HNE.out
   exact (HFC.out.1 _ (by omega)).trans ((Lu3.out _ (by omega) (by omega)).trans ((HL6.out.block _ (by omega)).trans HTR3.out))
  obtain⟨r0,r1,r2,r3,r4,rf,hrl⟩:=Ze tr5
  have rf0:=rf 0
  have rf1:=rf 1
  have rf2:=rf 2
  have rf3:=rf 3
  have rf4:=rf 4
  have t6:_=some (Obj.cells #[.int .i64 wd,.slice (some ⟨g9,0,none⟩) (ms.length+1) c9,.int .i64 LD,.slice va LT.length vc,.int .i64 (nx+1)] 52):=Zae tr5
  obtain⟨q0,q1,q2,q3,q4,-,-⟩:=Ze t6
  refine Zc 3 (by kernel_rfl) rfl (fun K hK=>?_)
  go_simp
  obtain⟨wz,hwz⟩:∃wz,((((V.setCell ⟨w.heap.size+1,0,none⟩ (.int .i64 wd)).setCell ⟨w.heap.size+1,1,none⟩ (.slice (some ⟨g9,0,none⟩) (ms.length+1) c9)).setCell ⟨w.heap.size+1,2,none⟩ (.int .i64 LD)).setCell ⟨w.heap.size+1,3,none⟩ (.slice va LT.length vc)).setCell ⟨w.heap.size+1,4,none⟩ (.int .i64 (nx+1))=wz:=⟨_,rfl⟩
  have far:∀b,b≠w.heap.size+1->wz.heap[b]? =wc.heap[b]? :=fun b hb=>by rw [<-hwz,<-hVh];exact Zaf hb
  have hsw:wz.heap.size=wc.heap.size:=by rw [<-hwz,<-hVh];simp [World.setCell]
  have HFZ:=Za (And.intro far hsw)
  have HQ:Hid (wz.cell? ⟨w.heap.size+1,0,none⟩=some (.int .i64 wd)/\wz.cell? ⟨w.heap.size+1,1,none⟩=some (.slice (some ⟨g9,0,none⟩) (ms.length+1) c9)/\wz.cell? ⟨w.heap.size+1,2,none⟩=some (.int .i64 LD)/\wz.cell? ⟨w.heap.size+1,3,none⟩=some (.slice va LT.length vc)/\wz.cell? ⟨w.heap.size+1,4,none⟩=some (.int .i64 (nx+1))):=by
   rw [hwz] at q0 q1 q2 q3 q4
   exact⟨q0,q1,q2,q3,q4⟩
  have HSS:Hid (wz.heap[Ob]? =wc.heap[Ob]? /\wz.heap[Mb]? =wc.heap[Mb]?):=⟨far _ (by have:=HNE.out;omega),far _ (by have:=HNE.out;omega)⟩
  have HBZ:Hid (wz.os=wc.os/\wz.tape=wc.tape/\wz.output=wc.output):=by
   have h:=HVL.out
   rw [<-hwz]
   exact⟨h.os,h.tape,h.output⟩
  rw [hwz]
  clear far hsw hwz tr5 t6 rf rf0 rf1 rf2 rf3 rf4 r0 r1 r2 r3 r4 q0 q1 q2 q3 q4 hVh HVL hrl
  refine hK.out _ _ HSS.out (fun _=>?_)
  clear hK K
  refine Zc 4 (by kernel_rfl) rfl (fun K hK=>?_)
  go_simp
  refine hK.out _ _ HSS.out (fun _=>?_)
  clear hK K
  refine wpAnyH_done (by kernel_rfl) ?_ _
  refine NoPanic.normal ?_
  try simp only [Exit.then]
  obtain⟨q0,q1,q2,q3,q4⟩:=HQ.out
  go_wp2_with fail
  refine bodyPost_ret (v:=.tuple #[.agg #[.int .i64 wd,.slice (some ⟨g9,0,none⟩) (ms.length+1) c9,.int .i64 LD,.slice va LT.length vc,.int .i64 (nx+1)],.int .i64 nx]) (by simp [results,Tryz.results32,go_sem,q0,q1,q2,q3,q4]) rfl ?_
  have hz:=HZ.out
  have hf:=Zf.out
  have hn:=HN3.out
  have h6:=HL6.out.size
  have h56:=HL56.out.size
  have h5:=HZ5.out
  have h3:=HZ3.out
  have hne:=HNE.out
  have h1:=HR1.out
  have h2:=HR2.out.2
  have hlt:=HR1.out.1.lt
  have h9:=HG9.out
  have hzz:=HFZ.out.2
  have hzc:=HFC.out.2
  have hfm:∀b,FtM g9 (ds++[(nx,hh,hc,p)]) b->w.heap.size+1<b/\b≠Ob/\¬Btw wo.heap.size w4.heap.size b:=fun b hb=>by
   have hcs:b=g9\/FtM g ds b\/b=hh:=by
    rcases hb with hb | ⟨i,hi',rfl⟩
    · exact Or.inl hb
    · rw [List.length_append,List.length_singleton] at hi'
      rcases Nat.lt_or_ge i ds.length with h | h
      · refine Or.inr (Or.inl (Or.inr ⟨i,h,?_⟩))
        simp [Zk,List.getD,List.getElem?_append_left h]
      · have e:i=ds.length:=by omega
        subst e
        refine Or.inr (Or.inr ?_)
        simp [Zk,List.getD]
   have hft:=HFT.out.2.2
   have hg:=hft g (Or.inl rfl)
   rcases hcs with rfl | h | rfl
   · refine⟨by rcases h9 with e | e <;> omega,by rcases h9 with e | e <;> omega,fun hq=>?_⟩
     have:=hq.1
     have:=hq.2
     rcases h9 with e | e <;> omega
   · have h':=hft b h
     refine⟨by omega,by omega,fun hq=>?_⟩
     have:=hq.1
     omega
   · refine⟨by omega,by omega,fun hq=>?_⟩
     have:=hq.2
     omega
  have hdz:ZL w.heap.size wz g9 c9 (ds++[(nx,hh,hc,p)]):=Zf7 HR3.out (fun b hb=>by
   obtain⟨b1,b2,-⟩:=hfm b hb
   exact (HFZ.out.1 b (by omega)).trans (HFC.out.1 b b2))
  have htz:TsO true (Btw wo.heap.size w4.heap.size) wz (.slice va LT.length vc) LT:=HX5.out.sm ⟨by omega,fun b hb=>by
   have b1:=hb.1
   have b2:=hb.2
   exact (HFZ.out.1 b (by omega)).trans ((HFC.out.1 b (by omega)).trans ((Lu3.out b (by omega) (by omega)).trans (HL56.out.block b (by omega))))⟩
  have hst:StO true (Btw w.heap.size wz.heap.size) wz (.agg #[.int .i64 wd,.slice (some ⟨g9,0,none⟩) (ms.length+1) c9,.int .i64 LD,.slice va LT.length vc,.int .i64 (nx+1)]) wd (ms++[(nx,p)]) LD LT (nx+1):=by
   have hw0:=ZA (ZdV HTW.out.1 HLX.out.2.2)
   rw [List.length_append,List.length_singleton] at hw0
   have hs0:=HST.out
   refine ZgK wd LD (nx+1) hdz (by simp [Zj,<-HFT.out.1]) (by simp) (by simp;omega) (fun x hx=>?_) htz (fun b hb=>⟨by have:=(hfm b hb).1;omega,(hfm b hb).2.2⟩) (fun b hb=>by have:=hb.1;omega)
   rcases List.mem_append.1 hx with hx | hx
   · exact Zb8 HMB.out x hx
   · rw [List.mem_singleton.1 hx];exact HPL.out.2
  have hcw:wc.os=u3.os/\wc.tape=u3.tape/\wc.output=u3.output:=by rw [<-HWC.out,<-HWB.out,<-HWA.out];exact⟨rfl,rfl,rfl⟩
  have L36:=Zd HB3.out HL6.out
  have BZ:Below w.heap.size w wz:=
   { os:=HBZ.out.1.trans (hcw.1.trans (HU3.out.1.trans L36.os))
     tape:=HBZ.out.2.1.trans (hcw.2.1.trans (HU3.out.2.1.trans L36.tape))
     output:=HBZ.out.2.2.trans (hcw.2.2.trans (HU3.out.2.2.trans L36.output))
     size:=by omega
     block:=fun b hb=>(HFZ.out.1 b (by omega)).trans ((HFC.out.1 b (by omega)).trans ((Lu3.out b (by omega) (by omega)).trans (L36.block b hb))) }
  rw [HYES.out]
  refine⟨_,rfl,?_,BZ⟩
  show StO true _ wz _ wd (ms++[(nx,p)]) (Zcg (nx,p) ts d) (ZaI (nx,p) ts d) (nx+1)
  rw [HLX.out.1,HLX.out.2.1]
  exact hst
theorem ZiK(am aw:Option Addr)(cm cw:Nat)(wd:Int)(ms:List Mk)(d:Int)(ts:List Wb)(nx:Int)(ap:Option Addr)(cp:Nat)(p:List Int)(w:World)(hm:Zq w am ms)(hv:Zz true w aw ts)(hsm:Z5 ms ts)(hst:stB wd ms d ts nx=false):
 Calls Tryz.prog 32 #[.agg #[.int .i64 wd,.slice am ms.length cm,.int .i64 d,.slice aw ts.length cw,.int .i64 nx],.slice ap p.length cp] w fun e w'=>e=.returned (.tuple #[.agg #[.int .i64 0,.slice none 0 0,.int .i64 0,.slice none 0 0,.int .i64 0],.int .i64 (-1)])/\Below w.heap.size w w':=by
 obtain⟨W1,hW1⟩:∃W,w.alloc (.cells #[.int .i64 wd,.slice am ms.length cm,.int .i64 d,.slice aw ts.length cw,.int .i64 nx] 52)=W:=⟨_,rfl⟩
 have hB1:Below w.heap.size w W1:=by rw [<-hW1];exact (Below.refl _ _).alloc (Nat.le_refl _) _
 have hI1:Z7 true W1 w.heap.size am aw cm cw wd ms d ts nx:=by rw [<-hW1];exact Z7.box hm hv
 obtain⟨W,hW⟩:∃W,W1.alloc (.cells #[.int .i64 0,.slice none 0 0,.int .i64 0,.slice none 0 0,.int .i64 0] 52)=W:=⟨_,rfl⟩
 have hB2:Below W1.heap.size W1 W:=by rw [<-hW];exact (Below.refl _ _).alloc (Nat.le_refl _) _
 have s1:W1.heap.size=w.heap.size+1:=by rw [<-hW1];simp
 have TR:W.heap[w.heap.size+1]? =some (.cells #[.int .i64 0,.slice none 0 0,.int .i64 0,.slice none 0 0,.int .i64 0] 52):=by rw [<-hW,<-s1];exact heap_alloc_new W1 _
 have hI:=hI1.below hB2
 have HB:=Za (Zd hB1 hB2)
 have HTR:=Za TR
 have HC:=Za (Zb9 am aw cm cw wd ms d ts nx W hI.mv hI.wv hsm)
 rw [hst] at HC
 have k0:=hI.c0
 have k1:=hI.c1
 have k2:=hI.c2
 have k3:=hI.c3
 have k4:=hI.c4
 have HWW:Hid ((w.alloc (.cells #[.int .i64 wd,.slice am ms.length cm,.int .i64 d,.slice aw ts.length cw,.int .i64 nx] 52)).alloc (.cells #[.int .i64 0,.slice none 0 0,.int .i64 0,.slice none 0 0,.int .i64 0] 52)=W):=by show _=_;rw [hW1,hW]
 clear hm hv hB1 hI1 hB2 TR hI s1 hW hW1 hsm hst
 go_enter Tryz.func32,Tryz.ntmps32
 go_upto_region 1 with fail
 rw [HWW.out]
 clear HWW
 go_wp2_with fail
 refine HC.out.mono ?_
 rintro e w1 ⟨rfl,L1⟩
 obtain⟨r0,r1,r2,r3,r4,rf,hrl⟩:=Ze ((L1.block _ (Ze HTR.out).2.2.2.2.2.2).trans HTR.out)
 have rf0:=rf 0
 have rf1:=rf 1
 have rf2:=rf 2
 have rf3:=rf 3
 have rf4:=rf 4
 have HB1:=Za (Zd HB.out L1)
 clear L1 rf k0 k1 k2 k3 k4
 go_wp2_with fail
 refine bodyPost_ret (v:=.tuple #[.agg #[.int .i64 0,.slice none 0 0,.int .i64 0,.slice none 0 0,.int .i64 0],.int .i64 (-1)]) (by simp [results,Tryz.results32,go_sem,r0,r1,r2,r3,r4]) rfl ?_
 have ho:w.heap.size<=w.heap.size+1:=by omega
 exact⟨rfl,(((((HB1.out.setCell (p:=⟨w.heap.size+1,0,none⟩) ho _).setCell (p:=⟨w.heap.size+1,1,none⟩) ho _).setCell (p:=⟨w.heap.size+1,2,none⟩) ho _).setCell (p:=⟨w.heap.size+1,3,none⟩) ho _).setCell (p:=⟨w.heap.size+1,4,none⟩) ho _)⟩
theorem Zcf(f:Nat->Nat)(c:Nat):∀n,(∀i,i<n->f i<=c)->tot f n<=n*c
 | 0,_=>by simp [tot]
 | n+1,h=>by
   have h1:=Zcf f c n (fun i hi=>h i (by omega))
   have h2:=h n (by omega)
   have h3:(n+1)*c=n*c+c:=Nat.succ_mul n c
   simp only [tot]
   omega
theorem ZdY{ms:List Mk}{a b:Nat}(h1:ms.length<=a)(h2:∀i,(mat ms i).length<=b):Zg2 ms<=a+a*b:=by
 have h:=Zcf (fun j=>(mat ms j).length) b ms.length (fun i _=>h2 i)
 have h3:=Nat.mul_le_mul_right b h1
 unfold Zg2
 omega
theorem ZgL{ls:List (List Int)}{a b:Nat}(h1:ls.length<=a)(h2:∀i,(cn ls i).length<=b):Zif ls<=a+a*b:=by
 have h:=Zcf (fun j=>(cn ls j).length) b ls.length (fun i _=>h2 i)
 have h3:=Nat.mul_le_mul_right b h1
 unfold Zif
 omega
theorem ZiL{wd nx d:Int}{ms:List Mk}{ts:List Wb}{p:List Int}(hst:stB wd ms d ts nx=true)(hsm:Z5 ms ts)(b:Bool)(hb:b=true->Zb2 (nx,p) ts d=true):Z5 (ZgJ b ms nx p) (ZhF b nx p ts d):=by
 obtain⟨hmb,hok,-,-⟩:=ZaD hst
 rcases b with _ | _
 · exact hsm
 have hr:=hb rfl
 have hw0:=ZA (ZdV hok hr)
 rw [List.length_append,List.length_singleton] at hw0
 have hs0:=Zdy hst
 have hpl:=(Zat (ZlK hok hr)).2
 show Z5 (ms++[(nx,p)]) (ZaI (nx,p) ts d)
 have hln:(ms++[(nx,p)]).length<=60:=by rw [List.length_append,List.length_singleton];omega
 have hat:∀i,(mat (ms++[(nx,p)]) i).length<=4:=fun i=>by
  rcases Nat.lt_or_ge i (ms++[(nx,p)]).length with hi | hi
  · have hm:(ms++[(nx,p)])[i]∈ms++[(nx,p)]:=List.getElem_mem hi
    have e:mat (ms++[(nx,p)]) i=((ms++[(nx,p)])[i]).2:=by simp only [mat,List.getD,List.getElem?_eq_getElem hi,Option.getD_some]
    rw [e]
    rcases List.mem_append.1 hm with hx | hx
    · exact Zb8 hmb _ hx
    · rw [List.mem_singleton.1 hx];exact hpl
  · have e:mat (ms++[(nx,p)]) i=[]:=by simp [mat,List.getD,List.getElem?_eq_none hi]
    rw [e];simp
 have hwee:=Zoa (nx,p) ts d
 have hrl:=Ziv (nx,p) ts d
 have hre:rT (nx,p) ts d=ZaI (nx,p) ts d:=by unfold rT;rw [if_pos hok]
 rw [hre] at hwee hrl
 refine⟨⟨by omega,fun i=>by have:=hat i;omega⟩,hwee,?_⟩
 have h1:=ZdY hln hat
 have h2:ZkY (ZaI (nx,p) ts d)<=4+4*4000:=by
  have h:=Zcf (fun j=>wtot (Zl (ZaI (nx,p) ts d) j)) 4000 (ZaI (nx,p) ts d).length (fun i hi=>by
   obtain⟨w1,w2,w3,w4⟩:=ZaR (ZgF (m:=(nx,p)) hok i (by omega))
   have a1:=ZdY w1 w2
   have a2:=ZgL w3 w4
   show Zg2 _+Zif _<=4000
   omega)
  have h3:=Nat.mul_le_mul_right 4000 hrl
  unfold ZkY
  omega
 omega
theorem Zjw{wd nx d:Int}{p:List Int}{ts:List Wb}(h:kpB wd nx d p ts=true):Zb2 (nx,p) ts d=true:=by
 unfold kpB at h
 simp only [Bool.and_eq_true] at h
 exact h.2
end Go.Proofs.YtaaagmgglolibaaGreat
namespace Go.Proofs.YtaaagmgglolibaaGreat
open Go
def MSort(ms:List Mk):Prop:=ms.length<=60/\(∀x∈ms,1<=x.1/\x.1<=1000000/\okB x.2=true)/\(∀x∈ms,∀y∈ms,x.2.length=y.2.length)/\ms.Pairwise (fun a b=>a.1<b.1)
theorem Zdz{ms:List Mk}{i:Nat}(h:i<ms.length):mid ms i=ms[i].1:=by simp [mid,List.getD,h]
theorem ZcU{ms:List Mk}{i:Nat}(h:i<ms.length):mat ms i=ms[i].2:=by simp [mat,List.getD,h]
theorem Zdb{ms:List Mk}:Zn ms=true↔MSort ms:=by
 constructor
 · intro h
   have hat:∀i,i<ms.length->1<=mid ms i/\mid ms i<=1000000/\okB (mat ms i)=true/\(mat ms i).length=(mat ms 0).length:=fun i hi=>by
    obtain⟨h1,h2,h3,h4,-⟩:=(ZG _ _).1 (ZM h hi)
    exact⟨h1,h2,h3,h4⟩
   refine⟨ZA h,fun x hx=>?_,fun x hx y hy=>?_,List.pairwise_iff_getElem.2 (fun i j hi hj hij=>?_)⟩
   · obtain⟨i,hi,rfl⟩:=List.mem_iff_getElem.1 hx
     obtain⟨h1,h2,h3,-⟩:=hat i hi
     rw [Zdz hi] at h1 h2
     rw [ZcU hi] at h3
     exact⟨h1,h2,h3⟩
   · obtain⟨i,hi,rfl⟩:=List.mem_iff_getElem.1 hx
     obtain⟨j,hj,rfl⟩:=List.mem_iff_getElem.1 hy
     have a:=(hat i hi).2.2.2
     have b:=(hat j hj).2.2.2
     rw [ZcU hi] at a
     rw [ZcU hj] at b
     rw [a,b]
   · have:=Zbd h hij hj
     rw [Zdz hi,Zdz hj] at this
     exact this
 · rintro⟨h1,h2,h3,h4⟩
   refine Zei h1 (fun i hi=>(ZG _ _).2 ?_)
   have h0:0<ms.length:=by omega
   obtain⟨a1,a2,a3⟩:=h2 _ (List.getElem_mem hi)
   have a4:=h3 _ (List.getElem_mem hi) _ (List.getElem_mem h0)
   rw [Zdz hi,ZcU hi,ZcU h0]
   refine⟨a1,a2,a3,a4,(Nat.eq_zero_or_pos i).imp id (fun hi0=>?_)⟩
   rw [Zdz (show i-1<ms.length by omega)]
   exact List.pairwise_iff_getElem.1 h4 (i-1) i (by omega) hi (by omega)
theorem ZiM{ms:List Mk}(h:Zn ms=true)(id:Int):Zn (ZS ms id)=true:=by
 obtain⟨h1,h2,h3,h4⟩:=Zdb.1 h
 have hs:∀x∈ZS ms id,x∈ms:=fun x hx=>(List.mem_filter.1 hx).1
 exact Zdb.2 ⟨Nat.le_trans (Zfp ms id) h1,fun x hx=>h2 x (hs x hx),fun x hx y hy=>h3 x (hs x hx) y (hs y hy),h4.filter _⟩
theorem ZmZ{wd d nx:Int}{ms:List Mk}{ts:List Wb}(h:stB wd ms d ts nx=true)(id:Int):stB wd (ZS ms id) d ts nx=true:=by
 simp only [stB,Bool.and_eq_true] at h ⊢
 refine⟨h.1,ZiM h.2.1 id,h.2.2.1,h.2.2.2.1,h.2.2.2.2.1,?_⟩
 have hb:=h.2.2.2.2.2
 rw [Zan,List.all_eq_true] at hb ⊢
 exact fun x hx=>hb x (List.mem_filter.1 hx).1
theorem ZiN(ms:List Mk)(id:Int):decide (0<=Zv (ZS ms id) id)=false:=by
 refine ZiO (fun j hj e=>?_)
 rw [Zdz hj] at e
 have hm:=(List.mem_filter.1 (List.getElem_mem hj)).2
 rw [e] at hm
 simp at hm
theorem ZlN{ms:List Mk}{id:Int}(hm:Zn ms=true)(h:0<=Zv ms id):(ZS ms id).length+1=ms.length:=by
 have hi:=(ZQ h).1
 rw [<-Zhv hm h,List.length_append,List.length_take,List.length_drop]
 omega
theorem ZeA{m:Mk}{ts:List Wb}{d:Int}(hok:ZZ d ts=true)(hr:Zb2 m ts d=true):(Zl (ZaI m ts d) 0).1=(Zl ts 0).1++[m]:=by
 have e2:ZaI m ts d=ZdM m ts (Zdg d):=by unfold ZaI;rw [hr];rfl
 obtain⟨-,hn1,hn4⟩:=Zda (Zdw hok)
 have h4:=(ZaW hok).1
 rw [e2,ZdN m ts _ (by omega),if_pos (by omega)]
 rfl
theorem Zm0{wd d nx:Int}{p:List Int}{ms:List Mk}{ts:List Wb}(h:stB wd ms d ts nx=true)(hb:kpB wd nx d p ts=true):stB wd (ms++[(nx,p)]) (Zcg (nx,p) ts d) (ZaI (nx,p) ts d) (nx+1)=true:=by
 obtain⟨hmb,hok,hgr,hbr⟩:=ZaD h
 have hr:=Zjw hb
 have h0:=ZdV hok hr
 have hb':=hb
 simp only [kpB,Bool.and_eq_true,decide_eq_true_eq,Bool.not_eq_true',decide_eq_false_iff_not] at hb'
 obtain⟨⟨⟨hop,hpl⟩,hnx⟩,-⟩:=hb'
 have hs:=Zdy h
 have h60:=ZA h0
 rw [List.length_append] at h60
 have hall:∀x∈ms,(x.2.length:Int)=wd/\x.1<nx:=fun x hx=>by
  obtain⟨i,hi,rfl⟩:=List.mem_iff_getElem.1 hx
  obtain⟨b1,b2⟩:=Zej hbr hi
  obtain⟨z1,-,z3⟩:=ZQ b1
  obtain⟨g1,g2⟩:=ZiP hgr z1
  rw [b2,ZcU hi] at g1
  rw [z3,Zdz hi] at g2
  exact⟨g1,g2⟩
 obtain⟨m1,m2,m3,m4⟩:=Zdb.1 hmb
 have hmm:Zn (ms++[(nx,p)])=true:=by
  have hin:inR nx 1 1000000=true:=by simp only [stB,Bool.and_eq_true] at h;exact h.2.2.2.1
  simp [inR] at hin
  refine Zdb.2 ⟨by rw [List.length_append];simp at h60 ⊢;omega,fun x hx=>?_,fun x hx y hy=>?_,?_⟩
  · rcases List.mem_append.1 hx with hx | hx
    · exact m2 x hx
    · rw [List.mem_singleton.1 hx];exact⟨by omega,by omega,hop⟩
  · have hl:∀x∈ms++[(nx,p)],(x.2.length:Int)=wd:=fun x hx=>by
     rcases List.mem_append.1 hx with hx | hx
     · exact (hall x hx).1
     · rw [List.mem_singleton.1 hx];exact hpl
    have a:=hl x hx
    have b:=hl y hy
    omega
  · refine List.pairwise_append.2 ⟨m4,List.pairwise_singleton _ _,fun x hx y hy=>?_⟩
    rw [List.mem_singleton.1 hy]
    exact (hall x hx).2
 have h':=h
 simp only [stB,Bool.and_eq_true] at h' ⊢
 refine⟨h'.1,hmm,Zgp hok,?_,?_,?_⟩
 · have:=h'.2.2.2.1
   simp [inR] at this ⊢
   omega
 · rw [ZeA hok hr]
   have hg:=hgr
   rw [ZdA,List.all_eq_true] at hg ⊢
   intro x hx
   rcases List.mem_append.1 hx with hx | hx
   · have:=hg x hx
     simp only [grB,Bool.and_eq_true,decide_eq_true_eq] at this ⊢
     omega
   · rw [List.mem_singleton.1 hx]
     simp only [grB,Bool.and_eq_true,decide_eq_true_eq]
     omega
 · rw [ZeA hok hr]
   have hg:=hbr
   rw [Zan,List.all_eq_true] at hg ⊢
   intro x hx
   rcases List.mem_append.1 hx with hx | hx
   · exact Zee h0 (hg x hx)
   · rw [List.mem_singleton.1 hx];exact ZfZ h0
theorem Zki{p:List Int}(h:okB p=true):ZaY p p=0:=by
 have ht:Zbu p p=true:=by unfold Zbu;rw [h];simp
 unfold ZaY
 rw [if_pos ht]
 exact ZgM _ (fun i=>by unfold sqF;rw [Int.sub_self];rfl) _
theorem Zm1{ms:List Mk}{q:List Int}(ht:Zap ms q=true){x:Ht}(hx:x∈Z0 ms q):0<=x.2:=(ZlO ht hx).2.1
theorem ZhI{wd d nx:Int}{ms:List Mk}{ts:List Wb}{p:List Int}{id:Int}(h:stB wd ms d ts nx=true)(hp:okB p=true)(hl:(p.length:Int)=wd)(hm:(id,p)∈ms):(exL wd ms d ts nx p 1).length=1/\(Zr (exL wd ms d ts nx p 1) 0).2=0:=by
 obtain⟨hmb,hok,hgr,hbr⟩:=ZaD h
 have hg:=ZhJ h hp hl
 have htd:=Zkj hbr hmb hg
 have ht:Zek wd ms d ts nx p 1=true:=by unfold Zek;rw [h,hp];simp [hl,Zaz]
 have e2:exL wd ms d ts nx p 1=(ZU (Z0 ms p)).take 1:=by unfold exL Z1;rw [ht,if_pos rfl,if_pos ⟨htd,rfl⟩];rfl
 have hin:(id,(0:Int))∈ZU (Z0 ms p):=by
  refine (Zao _).mem_iff.2 (List.mem_map.2 ⟨(id,p),hm,?_⟩)
  show (id,ZaY p p)=_
  rw [Zki hp]
 rw [e2]
 have hS:=Zbp (Z0 ms p)
 have hall:∀x∈ZU (Z0 ms p),0<=x.2:=fun x hx=>Zm1 htd ((Zao _).mem_iff.1 hx)
 rcases hc:ZU (Z0 ms p) with _ | ⟨a,l⟩
 · rw [hc] at hin;simp at hin
 · rw [hc] at hin hS hall
   refine⟨by simp,?_⟩
   have ea:Zr ((a::l).take 1) 0=a:=by simp [Zr,List.getD]
   rw [ea]
   have h0:=hall a (List.mem_cons_self ..)
   rcases List.mem_cons.1 hin with e | e
   · rw [<-e]
   · have:=List.rel_of_pairwise_cons hS e
     unfold leH at this
     simp only at this
     omega
end Go.Proofs.YtaaagmgglolibaaGreat
namespace Go.Proofs.YtaaagmgglolibaaGreat
open Go Go.RowKit
theorem StO.told{o:Bool}{S:Nat->Prop}{w:World}{v:Value}{wd:Int}{ms:List Mk}{d:Int}{ts:List Wb}{nx:Int}(h:StO o S w v wd ms d ts nx):StV w v wd ms d ts nx:=by
 obtain⟨am,cm,aw,cw,e,-,-,hv⟩:=h.view
 obtain⟨h1,h2⟩:=hv w ⟨Nat.le_refl _,fun _ _=>rfl⟩
 exact⟨am,cm,aw,cw,e,h1,h2⟩
theorem StV.zero(w:World):StV w (.agg #[.int .i64 0,.slice none 0 0,.int .i64 0,.slice none 0 0,.int .i64 0]) 0 [] 0 [] 0:=(StO.zero false w).told
theorem Zel:Z5 [] []:=⟨⟨by simp,fun i=>by simp [mat]⟩,(Em.small (w:=(default:World)) (Or.inl ⟨rfl,rfl⟩)).2.1,(Em.small (w:=(default:World)) (Or.inl ⟨rfl,rfl⟩)).2.2⟩
structure St5 where
 wd:Int
 ms:List Mk
 d:Int
 ts:List Wb
 nx:Int
def Zf9:St5:=⟨0,[],0,[],0⟩
def St5.In(s:St5)(w:World)(v:Value):Prop:=StV w v s.wd s.ms s.d s.ts s.nx
def St5.ok(s:St5):Bool:=stB s.wd s.ms s.d s.ts s.nx
def St5.Sm(s:St5):Prop:=Z5 s.ms s.ts
def ZaE(s:St5)(p:List Int):St5:=if s.ok=true then ⟨s.wd,ZgJ (kpB s.wd s.nx s.d p s.ts) s.ms s.nx p,kpDd (kpB s.wd s.nx s.d p s.ts) s.nx p s.ts s.d,ZhF (kpB s.wd s.nx s.d p s.ts) s.nx p s.ts s.d,kpNx (kpB s.wd s.nx s.d p s.ts) s.nx⟩ else Zf9
def Zca(s:St5)(p:List Int):Int:=if s.ok=true then Zkh (kpB s.wd s.nx s.d p s.ts) s.nx else -1
def Zbq(s:St5)(id:Int):St5:=if s.ok=true then ⟨s.wd,ZS s.ms id,s.d,s.ts,s.nx⟩ else Zf9
def Zct(s:St5)(id:Int):Bool:=s.ok && decide (0<=Zv s.ms id)
def ZgN(wd:Int):St5:=if inR wd 1 4=true then ⟨wd,[],1,ZdK,1⟩ else Zf9
theorem Zm2(s:St5)(v:Value)(ap:Option Addr)(cp:Nat)(p:List Int)(w:World)(h:s.In w v)(hs:s.Sm)(hp:Zs w ap p)(hl:p.length<=1048576):
 Calls Tryz.prog 32 #[v,.slice ap p.length cp] w fun e w'=>∃x,e=.returned (.tuple #[x,.int .i64 (Zca s p)])/\(ZaE s p).In w' x/\Below w.heap.size w w':=by
 obtain⟨am,cm,aw,cw,rfl,hm,hw⟩:=h
 rcases hst:s.ok with _ | _
 · refine (ZiK am aw cm cw s.wd s.ms s.d s.ts s.nx ap cp p w hm hw hs hst).mono ?_
   rintro e w' ⟨rfl,L⟩
   unfold Zca ZaE
   rw [hst]
   exact⟨_,rfl,StV.zero w',L⟩
 · refine (ZmY am aw cm cw s.wd s.ms s.d s.ts s.nx ap cp p w hm hw hp hl hs hst).mono ?_
   rintro e w' ⟨x,rfl,hx,L⟩
   unfold Zca ZaE
   rw [hst]
   exact⟨x,rfl,hx.told,L⟩
theorem Zm3(s:St5)(v:Value)(ap:Option Addr)(cp:Nat)(p:List Int)(w:World)(h:s.In w v)(hs:s.Sm)(hp:Zs w ap p)(hl:p.length<=1048576):
 Calls Tryz.prog 37 #[v,.slice ap p.length cp] w fun e w'=>∃x,e=.returned (.tuple #[x,.int .i64 (Zca s p)])/\(ZaE s p).In w' x/\Below w.heap.size w w':=by
 obtain⟨am,cm,aw,cw,rfl,hm,hw⟩:=h
 rcases hst:s.ok with _ | _
 · refine (ZiH true am aw cm cw s.wd s.ms s.d s.ts s.nx ap cp p w hm hw hs hst).mono ?_
   rintro e w' ⟨rfl,L⟩
   unfold Zca ZaE
   rw [hst]
   exact⟨_,rfl,StV.zero w',L⟩
 · obtain⟨hmb,hok,-,-⟩:=ZaD hst
   refine (ZmX true am aw cm cw s.wd s.ms s.d s.ts s.nx ap cp p w hm hw hp hl hs hst hmb hok).mono ?_
   rintro e w' ⟨x,rfl,hx,L⟩
   unfold Zca ZaE
   rw [hst]
   exact⟨x,rfl,hx,L⟩
theorem Zjx(s:St5)(v:Value)(id:Int)(w:World)(h:s.In w v)(hs:s.Sm):
 Calls Tryz.prog 34 #[v,.int .i64 id] w fun e w'=>∃x,e=.returned (.tuple #[x,.bool (Zct s id)])/\(Zbq s id).In w' x/\Below w.heap.size w w':=by
 obtain⟨am,cm,aw,cw,rfl,hm,hw⟩:=h
 rcases hst:s.ok with _ | _
 · refine (ZlP am aw cm cw s.wd s.ms s.d s.ts s.nx id w hm hw hs hst).mono ?_
   rintro e w' ⟨rfl,L⟩
   unfold Zct Zbq
   rw [hst]
   exact⟨_,rfl,StV.zero w',L⟩
 · obtain⟨hmb,hok,-,-⟩:=ZaD hst
   refine (iGone am aw cm cw s.wd s.ms s.d s.ts s.nx id w hm hw hs hst hmb hok).mono ?_
   rintro e w' ⟨x,rfl,hx,L⟩
   unfold Zct Zbq
   rw [hst]
   exact⟨x,rfl,hx.told,L⟩
theorem Zm4(s:St5)(v:Value)(id:Int)(w:World)(h:s.In w v)(hs:s.Sm):
 Calls Tryz.prog 41 #[v,.int .i64 id] w fun e w'=>∃x,e=.returned (.tuple #[x,.bool (Zct s id)])/\(Zbq s id).In w' x/\Below w.heap.size w w':=by
 obtain⟨am,cm,aw,cw,rfl,hm,hw⟩:=h
 rcases hst:s.ok with _ | _
 · refine (ZlB true am aw cm cw s.wd s.ms s.d s.ts s.nx id w hm hw hs hst).mono ?_
   rintro e w' ⟨rfl,L⟩
   unfold Zct Zbq
   rw [hst]
   exact⟨_,rfl,StV.zero w',L⟩
 · obtain⟨hmb,hok,-,-⟩:=ZaD hst
   refine (sGone true am aw cm cw s.wd s.ms s.d s.ts s.nx id w hm hw hs hst hmb hok).mono ?_
   rintro e w' ⟨x,rfl,hx,L⟩
   unfold Zct Zbq
   rw [hst]
   exact⟨x,rfl,hx,L⟩
theorem Zok(wd:Int)(w:World):
 Calls Tryz.prog 36 #[.int .i64 wd] w fun e w'=>∃x,e=.returned (.tuple #[x,.bool (inR wd 1 4)])/\(ZgN wd).In w' x/\Below w.heap.size w w':=by
 refine (Zkk wd w).mono ?_
 rintro e w' ⟨h1,h2⟩
 unfold ZgN
 rcases hi:inR wd 1 4 with _ | _
 · obtain⟨aw,rfl,he,L⟩:=h2 hi
   exact⟨_,rfl,⟨none,0,aw,0,rfl,Or.inl rfl,he.view⟩,L⟩
 · obtain⟨aw,rfl,he,L⟩:=h1 hi
   exact⟨_,rfl,⟨none,0,aw,4,rfl,Or.inl rfl,he.view⟩,L⟩
theorem Zol(wd:Int)(w:World):
 Calls Tryz.prog 42 #[.int .i64 wd] w fun e w'=>∃x,e=.returned (.tuple #[x,.bool (inR wd 1 4)])/\(ZgN wd).In w' x/\Below w.heap.size w w':=by
 unfold ZgN
 rcases hi:inR wd 1 4 with _ | _
 · refine (ZgO wd w hi).mono ?_
   rintro e w' ⟨aw,rfl,he,L⟩
   exact⟨_,rfl,⟨none,0,aw,0,rfl,Or.inl rfl,he.view⟩,L⟩
 · refine (Zkl wd w hi).mono ?_
   rintro e w' ⟨aw,rfl,he,L⟩
   exact⟨_,rfl,⟨none,0,aw,4,rfl,Or.inl rfl,he.view⟩,L⟩
theorem Zjy(s:St5)(v:Value)(w:World)(h:s.In w v)(hs:s.Sm):
 Calls Tryz.prog 39 #[v] w fun e w'=>e=.returned (.bool s.ok)/\Below w.heap.size w w':=by
 obtain⟨am,cm,aw,cw,rfl,hm,hw⟩:=h
 exact Zb9 am aw cm cw s.wd s.ms s.d s.ts s.nx w hm hw hs
theorem ZlQ(s:St5)(v:Value)(w:World)(h:s.In w v)(hs:s.Sm):
 Calls Tryz.prog 40 #[v] w fun e w'=>e=.returned (.bool s.ok)/\Below w.heap.size w w':=by
 obtain⟨am,cm,aw,cw,rfl,hm,hw⟩:=h
 exact ZcS true am aw cm cw s.wd s.ms s.d s.ts s.nx w hm hw hs
theorem Zem(s:St5)(v v':Value)(w:World)(h:s.In w v)(h':s.In w v')(hs:s.Sm):
 Calls Tryz.prog 38 #[v,v'] w fun e w'=>e=.returned (.bool true)/\Below w.heap.size w w':=
 ZmK v v' s.wd s.d s.nx s.ms s.ts w h h' hs
theorem ZlR(s:St5)(v:Value)(aq:Option Addr)(cq:Nat)(q:List Int)(k:Int)(w:World)(h:s.In w v)(hs:s.Sm)(hq:Zs w aq q)(hl:q.length<=1048576)(hc:q.length<=cq):
 Calls Tryz.prog 43 #[v,.slice aq q.length cq,.int .i64 k] w fun e w'=>∃a c,e=.returned (.slice a (exL s.wd s.ms s.d s.ts s.nx q k).length c)/\Za3 w' a (exL s.wd s.ms s.d s.ts s.nx q k)/\Below w.heap.size w w':=by
 obtain⟨am,cm,aw,cw,rfl,hm,hw⟩:=h
 refine (Zom am aw cm cw s.wd s.ms s.d s.ts s.nx aq cq q k w hm hw hs hq hl hc).mono ?_
 rintro e w' ⟨a,c,rfl,ho,L⟩
 obtain⟨a',c',e',hv⟩:=ho.view
 injection e' with e1 e2 e3
 subst e1
 exact⟨a,c,rfl,hv,L⟩
theorem Zm5(wd:Int):(ZgN wd).Sm:=by
 unfold ZgN
 rcases inR wd 1 4 with _ | _
 · exact Zel
 · show Z5 [] ZdK
   exact⟨⟨by simp,fun i=>by simp [mat]⟩,⟨by decide,fun i=>by rw [Zgw];exact⟨⟨by simp,fun i=>by simp [mat]⟩,⟨by simp,fun i=>by simp [cn]⟩⟩⟩,by decide⟩
theorem Zm6(wd:Int)(h:inR wd 1 4=true):(ZgN wd).ok=true:=by
 unfold ZgN St5.ok
 rw [h]
 exact (ZlS wd).trans h
theorem ZlT(s:St5)(p:List Int)(h:s.Sm):(ZaE s p).Sm:=by
 unfold ZaE
 rcases hst:s.ok with _ | _
 · exact Zel
 · exact ZiL (wd:=s.wd) hst h _ Zjw
theorem ZlU(s:St5)(id:Int)(h:Zgs s.ms)(ht:Zck s.ts):(Zbq s id).Sm:=by
 unfold Zbq
 rcases hst:s.ok with _ | _
 · exact Zel
 · refine ZkX ⟨Nat.le_trans (Zfp _ _) h.1,fun i=>?_⟩ ht
   show (mat (ZS s.ms id) i).length<=5
   rcases Nat.lt_or_ge i (ZS s.ms id).length with hi | hi
   · have hm:=(List.mem_filter.1 (List.getElem_mem hi)).1
     obtain⟨j,hj,e⟩:=List.mem_iff_getElem.1 hm
     have:=h.2 j
     rw [ZcU hj,e] at this
     rw [ZcU hi]
     exact this
   · have e:mat (ZS s.ms id) i=[]:=by simp [mat,List.getD,List.getElem?_eq_none hi]
     rw [e];simp
theorem ZiQ(s:St5)(id:Int)(h:s.ok=true):(Zbq s id).ok=true/\(Zbq s id).d=s.d/\(Zbq s id).ts=s.ts/\(Zct s id=false->Zbq s id=s)/\(Zct s id=true->(Zbq s id).ms.length+1=s.ms.length)/\Zct (Zbq s id) id=false:=by
 have e:Zbq s id=⟨s.wd,ZS s.ms id,s.d,s.ts,s.nx⟩:=by unfold Zbq;rw [if_pos h]
 have hok:(Zbq s id).ok=true:=by rw [e];exact ZmZ h id
 refine⟨hok,by rw [e],by rw [e],fun hr=>?_,fun hr=>?_,?_⟩
 · unfold Zct at hr
   rw [h] at hr
   have:Zv s.ms id<0:=by simpa using hr
   rw [e,ZgG this]
 · unfold Zct at hr
   rw [h] at hr
   rw [e]
   exact ZlN (ZaD h).1 (by simpa using hr)
 · unfold Zct
   rw [hok,e]
   simpa using ZiN s.ms id
theorem ZlV(s:St5)(p:List Int)(h:s.ok=false):Zca s p= -1/\ZaE s p=Zf9:=by
 unfold Zca ZaE
 rw [h]
 exact⟨rfl,rfl⟩
theorem Zkm(s:St5)(p:List Int)(h:s.ok=true)(hr:Zca s p<0):ZaE s p=s:=by
 unfold Zca at hr
 unfold ZaE
 rw [h] at hr ⊢
 have hn:=ZdU h
 rcases hb:kpB s.wd s.nx s.d p s.ts with _ | _
 · rfl
 · rw [hb] at hr
   simp only [if_true,Zkh] at hr
   omega
theorem Zkn(s:St5)(p:List Int)(h:s.ok=true)(hr:¬Zca s p<0):(ZaE s p).ok=true/\Zca s p=s.nx/\(ZaE s p).nx=s.nx+1/\(exL (ZaE s p).wd (ZaE s p).ms (ZaE s p).d (ZaE s p).ts (ZaE s p).nx p 1).length=1/\(Zr (exL (ZaE s p).wd (ZaE s p).ms (ZaE s p).d (ZaE s p).ts (ZaE s p).nx p 1) 0).2=0:=by
 rcases hb:kpB s.wd s.nx s.d p s.ts with _ | _
 · unfold Zca at hr
   rw [h,hb] at hr
   exact absurd (show Zkh false s.nx<0 by show (-1:Int)<0;decide) hr
 · have e:ZaE s p=⟨s.wd,s.ms++[(s.nx,p)],Zcg (s.nx,p) s.ts s.d,ZaI (s.nx,p) s.ts s.d,s.nx+1⟩:=by unfold ZaE;rw [h,hb];rfl
   have hk:=Zm0 h hb
   have hp:=hb
   simp only [kpB,Bool.and_eq_true,decide_eq_true_eq] at hp
   have hn:=ZhI hk hp.1.1.1 hp.1.1.2 (List.mem_append_right _ (List.mem_singleton.2 rfl))
   rw [e]
   exact⟨hk,by unfold Zca;rw [h,hb];rfl,rfl,hn.1,hn.2⟩
theorem ZiR(ao0:Option Addr)(len0 cap0:Nat)(w:World)(hv0:ZW w ao0 len0):
 Calls Tryz.prog 4 #[.slice ao0 len0 cap0] w fun e w'=>e=.returned (.bool true)/\Below w.heap.size w w':=by
 by_cases hbig:4096<len0
 · have hbb:decide (4096<(len0:Int))=true:=by simp;omega
   go_enter Tryz.func4,Tryz.ntmps4
   go_wp2_with fail
   refine (bigC ao0 len0 cap0 _).mono ?_
   rintro e w1 ⟨rfl,hw1⟩
   subst hw1
   go_wp2_with fail
   go_ret
   exact⟨rfl,Below.refl _ _⟩
 have hbb:decide (4096<(len0:Int))=false:=by simp;omega
 have hn:len0<=4096:=by omega
 have HC:=Za hv0
 clear hbig hv0
 go_enter Tryz.func4,Tryz.ntmps4
 go_wp2_with fail
 refine (bigC ao0 len0 cap0 _).mono ?_
 rintro e w0 ⟨rfl,hw0⟩
 subst hw0
 rw [hbb]
 clear hbb
 go_wp2_with fail
 refine (ZjS ao0 len0 cap0 _ HC.out hn).mono ?_
 rintro e w1 ⟨swd,sd,snx,ams,cms,sms,aws,cws,sts,aq,cq,p,rfl,⟨hks,hcs,hmb,htb⟩,hqk,hqc,hq6,LC⟩
 obtain⟨s,hs⟩:∃s:St5,s=⟨swd,sms,sd,sts,snx⟩:=⟨_,rfl⟩
 obtain⟨rfl,rfl,rfl,rfl,rfl⟩:swd=s.wd/\sms=s.ms/\sd=s.d/\sts=s.ts/\snx=s.nx:=by rw [hs];exact⟨rfl,rfl,rfl,rfl,rfl⟩
 have hms:=hks.now.1
 have hws:=hks.now.2
 have HSM:Hid s.Sm:=Za (ZkX hmb htb)
 have HP:=Za hqk.now
 have HPL:Hid (p.length<=6):=Za hq6
 have HPC:=Za hqc
 have HB:=Za (Below.refl w.heap.size w)
 clear hs hks hcs hmb htb hqk hqc hq6
 obtain⟨w2,hQ⟩:∃W,w1.alloc (.cells #[.int .i64 s.wd,.slice ams s.ms.length cms,.int .i64 s.d,.slice aws s.ts.length cws,.int .i64 s.nx] 52)=W:=⟨_,rfl⟩
 have LD:Below w1.heap.size w1 w2:=by rw [<-hQ];exact (Below.refl _ _).alloc (Nat.le_refl _) _
 have hI:Z7 true w2 w1.heap.size ams aws cms cws s.wd s.ms s.d s.ts s.nx:=by rw [<-hQ];exact Z7.box hms hws
 have Bs:=Za hI
 have HQ:=Za hQ
 replace HP:=Za (Zs.next HP.out LD)
 replace HC:=Za (ZW.below HC.out (Nat.le_refl _) (Zd LC LD))
 replace HB:=Za (Zd HB.out (Zd LC LD))
 clear hms hws hI hQ LC LD
 go_upto_region 4 with fail
 rw [HQ.out]
 clear HQ
 obtain⟨a,ha⟩:∃a,ZaE s p=a:=⟨_,rfl⟩
 obtain⟨r,hr⟩:∃r,Zca s p=r:=⟨_,rfl⟩
 have HA:=Za (And.intro ha hr)
 have HASM:Hid a.Sm:=by show a.Sm;rw [<-ha];exact ZlT s p HSM.out
 have HCL:=Za (Zm2 s _ aq cq p w2 (show St5.In s _ _ from⟨ams,cms,aws,cws,rfl,Bs.out.mv,Bs.out.wv⟩) HSM.out HP.out (by have:=HPL.out;omega))
 rw [ha,hr] at HCL
 clear ha hr
 have ks0:=Bs.out.c0
 have ks1:=Bs.out.c1
 have ks2:=Bs.out.c2
 have ks3:=Bs.out.c3
 have ks4:=Bs.out.c4
 go_wp2_with fail
 refine (HCL.out).mono ?_
 rintro e w3 ⟨x,rfl,⟨ama,cma,awa,cwa,rfl,hma,hwa⟩,LC⟩
 clear ks0 ks1 ks2 ks3 ks4
 obtain⟨w4,hQ⟩:∃W,w3.alloc (.cells #[.int .i64 a.wd,.slice ama a.ms.length cma,.int .i64 a.d,.slice awa a.ts.length cwa,.int .i64 a.nx] 52)=W:=⟨_,rfl⟩
 have LD:Below w3.heap.size w3 w4:=by rw [<-hQ];exact (Below.refl _ _).alloc (Nat.le_refl _) _
 have hI:Z7 true w4 w3.heap.size ama awa cma cwa a.wd a.ms a.d a.ts a.nx:=by rw [<-hQ];exact Z7.box hma hwa
 have Ba:=Za hI
 have HQ:=Za hQ
 have LX:=Zd LC LD
 replace Bs:=Za (Bs.out.below LX)
 replace HC:=Za (ZW.below HC.out (Nat.le_refl _) LX)
 replace HP:=Za (Zs.next HP.out LX)
 replace HB:=Za (Zd HB.out LX)
 clear hma hwa hI hQ LC LD LX
 go_upto_region 5 with fail
 rw [HQ.out]
 clear HQ
 clear HCL
 go_wp2_with fail
 refine (ZjR ao0 len0 cap0 _ HC.out hn).mono ?_
 rintro e w5 ⟨gwd,gd,gnx,amg,cmg,gms,awg,cwg,gts,gx,rfl,⟨hks,hcs,hmb,htb⟩,LC⟩
 obtain⟨g,hs⟩:∃s:St5,s=⟨gwd,gms,gd,gts,gnx⟩:=⟨_,rfl⟩
 obtain⟨rfl,rfl,rfl,rfl,rfl⟩:gwd=g.wd/\gms=g.ms/\gd=g.d/\gts=g.ts/\gnx=g.nx:=by rw [hs];exact⟨rfl,rfl,rfl,rfl,rfl⟩
 have hmg:=hks.now.1
 have hwg:=hks.now.2
 have HGSM:Hid g.Sm:=Za (ZkX hmb htb)
 have HGBD:=Za (And.intro hmb htb)
 clear hs hks hcs hmb htb
 obtain⟨w6,hQ⟩:∃W,w5.alloc (.cells #[.int .i64 g.wd,.slice amg g.ms.length cmg,.int .i64 g.d,.slice awg g.ts.length cwg,.int .i64 g.nx] 52)=W:=⟨_,rfl⟩
 have LD:Below w5.heap.size w5 w6:=by rw [<-hQ];exact (Below.refl _ _).alloc (Nat.le_refl _) _
 have hI:Z7 true w6 w5.heap.size amg awg cmg cwg g.wd g.ms g.d g.ts g.nx:=by rw [<-hQ];exact Z7.box hmg hwg
 have Bg:=Za hI
 have HQ:=Za hQ
 have LX:=Zd LC LD
 replace Bs:=Za (Bs.out.below LX)
 replace Ba:=Za (Ba.out.below LX)
 replace HC:=Za (ZW.below HC.out (Nat.le_refl _) LX)
 replace HP:=Za (Zs.next HP.out LX)
 replace HB:=Za (Zd HB.out LX)
 clear hmg hwg hI hQ LC LD LX
 go_upto_region 6 with fail
 rw [HQ.out]
 clear HQ
 obtain⟨b,hb⟩:∃a,Zbq g gx=a:=⟨_,rfl⟩
 obtain⟨f,hf⟩:∃r,Zct g gx=r:=⟨_,rfl⟩
 have HBF:=Za (And.intro hb hf)
 have HBSM:Hid b.Sm:=by show b.Sm;rw [<-hb];exact ZlU g gx HGBD.out.1 HGBD.out.2
 have HCL:=Za (Zjx g _ gx w6 (show St5.In g _ _ from⟨amg,cmg,awg,cwg,rfl,Bg.out.mv,Bg.out.wv⟩) HGSM.out)
 rw [hb,hf] at HCL
 clear hb hf HGBD
 have kg0:=Bg.out.c0
 have kg1:=Bg.out.c1
 have kg2:=Bg.out.c2
 have kg3:=Bg.out.c3
 have kg4:=Bg.out.c4
 go_wp2_with fail
 refine (HCL.out).mono ?_
 rintro e w7 ⟨x,rfl,⟨amb,cmb,awb,cwb,rfl,hmb,hwb⟩,LC⟩
 clear kg0 kg1 kg2 kg3 kg4
 obtain⟨w8,hQ⟩:∃W,w7.alloc (.cells #[.int .i64 b.wd,.slice amb b.ms.length cmb,.int .i64 b.d,.slice awb b.ts.length cwb,.int .i64 b.nx] 52)=W:=⟨_,rfl⟩
 have LD:Below w7.heap.size w7 w8:=by rw [<-hQ];exact (Below.refl _ _).alloc (Nat.le_refl _) _
 have hI:Z7 true w8 w7.heap.size amb awb cmb cwb b.wd b.ms b.d b.ts b.nx:=by rw [<-hQ];exact Z7.box hmb hwb
 have Bb:=Za hI
 have HQ:=Za hQ
 have LX:=Zd LC LD
 replace Bs:=Za (Bs.out.below LX)
 replace Ba:=Za (Ba.out.below LX)
 replace Bg:=Za (Bg.out.below LX)
 replace HC:=Za (ZW.below HC.out (Nat.le_refl _) LX)
 replace HP:=Za (Zs.next HP.out LX)
 replace HB:=Za (Zd HB.out LX)
 clear hmb hwb hI hQ LC LD LX
 go_upto_region 7 with fail
 rw [HQ.out]
 clear HQ
 clear HCL
 go_wp2_with fail
 refine (ZfN ao0 len0 cap0 _ HC.out hn).mono ?_
 rintro e w9 ⟨⟨nw,-,-,rfl⟩,LC⟩
 clear HC
 replace Bs:=Za (Bs.out.below LC)
 replace Ba:=Za (Ba.out.below LC)
 replace Bg:=Za (Bg.out.below LC)
 replace Bb:=Za (Bb.out.below LC)
 replace HP:=Za (Zs.next HP.out LC)
 replace HB:=Za (Zd HB.out LC)
 clear LC
 go_upto_region 8 with fail
 obtain⟨n,hn1⟩:∃a,ZgN nw=a:=⟨_,rfl⟩
 obtain⟨o,ho1⟩:∃r,inR nw 1 4=r:=⟨_,rfl⟩
 have HNO:=Za (And.intro hn1 ho1)
 have HNSM:Hid n.Sm:=by show n.Sm;rw [<-hn1];exact Zm5 nw
 have HNF:Hid (o=true->n.ok=true):=by show _->_;rw [<-hn1,<-ho1];exact Zm6 nw
 have HCL:=Za (Zok nw w9)
 rw [hn1,ho1] at HCL
 clear hn1 ho1
 go_wp2_with fail
 refine (HCL.out).mono ?_
 rintro e w10 ⟨x,rfl,⟨amn,cmn,awn,cwn,rfl,hmn,hwn⟩,LC⟩
 obtain⟨w11,hQ⟩:∃W,w10.alloc (.cells #[.int .i64 n.wd,.slice amn n.ms.length cmn,.int .i64 n.d,.slice awn n.ts.length cwn,.int .i64 n.nx] 52)=W:=⟨_,rfl⟩
 have LD:Below w10.heap.size w10 w11:=by rw [<-hQ];exact (Below.refl _ _).alloc (Nat.le_refl _) _
 have hI:Z7 true w11 w10.heap.size amn awn cmn cwn n.wd n.ms n.d n.ts n.nx:=by rw [<-hQ];exact Z7.box hmn hwn
 have Bn:=Za hI
 have HQ:=Za hQ
 have LX:=Zd LC LD
 replace Bs:=Za (Bs.out.below LX)
 replace Ba:=Za (Ba.out.below LX)
 replace Bg:=Za (Bg.out.below LX)
 replace Bb:=Za (Bb.out.below LX)
 replace HP:=Za (Zs.next HP.out LX)
 replace HB:=Za (Zd HB.out LX)
 clear hmn hwn hI hQ LC LD LX
 go_upto_region 9 with fail
 rw [HQ.out]
 clear HQ
 clear HCL
 have HCL:=Za (Zm3 s _ aq cq p w11 (show St5.In s _ _ from⟨ams,cms,aws,cws,rfl,Bs.out.mv,Bs.out.wv⟩) HSM.out HP.out (by have:=HPL.out;omega))
 rw [HA.out.1,HA.out.2] at HCL
 have ks0:=Bs.out.c0
 have ks1:=Bs.out.c1
 have ks2:=Bs.out.c2
 have ks3:=Bs.out.c3
 have ks4:=Bs.out.c4
 go_wp2_with fail
 refine (HCL.out).mono ?_
 rintro e w12 ⟨x,rfl,⟨amc,cmc,awc,cwc,rfl,hmc,hwc⟩,LC⟩
 clear ks0 ks1 ks2 ks3 ks4
 obtain⟨w13,hQ⟩:∃W,w12.alloc (.cells #[.int .i64 a.wd,.slice amc a.ms.length cmc,.int .i64 a.d,.slice awc a.ts.length cwc,.int .i64 a.nx] 52)=W:=⟨_,rfl⟩
 have LD:Below w12.heap.size w12 w13:=by rw [<-hQ];exact (Below.refl _ _).alloc (Nat.le_refl _) _
 have hI:Z7 true w13 w12.heap.size amc awc cmc cwc a.wd a.ms a.d a.ts a.nx:=by rw [<-hQ];exact Z7.box hmc hwc
 have Bc:=Za hI
 have HQ:=Za hQ
 have LX:=Zd LC LD
 replace Bs:=Za (Bs.out.below LX)
 replace Ba:=Za (Ba.out.below LX)
 replace Bg:=Za (Bg.out.below LX)
 replace Bb:=Za (Bb.out.below LX)
 replace Bn:=Za (Bn.out.below LX)
 replace HP:=Za (Zs.next HP.out LX)
 replace HB:=Za (Zd HB.out LX)
 clear hmc hwc hI hQ LC LD LX
 go_upto_region 10 with fail
 rw [HQ.out]
 clear HQ
 clear HCL
 obtain⟨os,hos⟩:∃r,s.ok=r:=⟨_,rfl⟩
 have HOS:=Za hos
 have hrr:(r !=r)=false:=by simp
 have hoo:(os !=os)=false:=by simp
 clear hos
 have HKW:Hid (∀W',Below w13.heap.size w13 W'->Z7 true W' w1.heap.size ams aws cms cws s.wd s.ms s.d s.ts s.nx/\Z7 true W' w3.heap.size ama awa cma cwa a.wd a.ms a.d a.ts a.nx/\Z7 true W' w12.heap.size amc awc cmc cwc a.wd a.ms a.d a.ts a.nx):=fun W' L=>⟨Bs.out.below L,Ba.out.below L,Bc.out.below L⟩
 have HCL:Hid (∀W',Below w13.heap.size w13 W'->W'.cell? ⟨w1.heap.size,0,none⟩=some (.int .i64 s.wd)/\W'.cell? ⟨w1.heap.size,1,none⟩=some (.slice ams s.ms.length cms)/\W'.cell? ⟨w1.heap.size,2,none⟩=some (.int .i64 s.d)/\W'.cell? ⟨w1.heap.size,3,none⟩=some (.slice aws s.ts.length cws)/\W'.cell? ⟨w1.heap.size,4,none⟩=some (.int .i64 s.nx)/\W'.cell? ⟨w3.heap.size,0,none⟩=some (.int .i64 a.wd)/\W'.cell? ⟨w3.heap.size,1,none⟩=some (.slice ama a.ms.length cma)/\W'.cell? ⟨w3.heap.size,2,none⟩=some (.int .i64 a.d)/\W'.cell? ⟨w3.heap.size,3,none⟩=some (.slice awa a.ts.length cwa)/\W'.cell? ⟨w3.heap.size,4,none⟩=some (.int .i64 a.nx)/\W'.cell? ⟨w12.heap.size,0,none⟩=some (.int .i64 a.wd)/\W'.cell? ⟨w12.heap.size,1,none⟩=some (.slice amc a.ms.length cmc)/\W'.cell? ⟨w12.heap.size,2,none⟩=some (.int .i64 a.d)/\W'.cell? ⟨w12.heap.size,3,none⟩=some (.slice awc a.ts.length cwc)/\W'.cell? ⟨w12.heap.size,4,none⟩=some (.int .i64 a.nx)):=fun W' L=>by
  obtain⟨h1,h2,h3⟩:=HKW.out W' L
  exact⟨h1.c0,h1.c1,h1.c2,h1.c3,h1.c4,h2.c0,h2.c1,h2.c2,h2.c3,h2.c4,h3.c0,h3.c1,h3.c2,h3.c3,h3.c4⟩
 have CLK:=Za (fun (W':World) (L:Below w13.heap.size w13 W')=>Zem a _ _ W' (show St5.In a _ _ from⟨ama,cma,awa,cwa,rfl,(HKW.out W' L).2.1.mv,(HKW.out W' L).2.1.wv⟩) (show St5.In a _ _ from⟨amc,cmc,awc,cwc,rfl,(HKW.out W' L).2.2.mv,(HKW.out W' L).2.2.wv⟩) HASM.out)
 have CIT:=Za (fun (W':World) (L:Below w13.heap.size w13 W')=>Zjy s _ W' (show St5.In s _ _ from⟨ams,cms,aws,cws,rfl,(HKW.out W' L).1.mv,(HKW.out W' L).1.wv⟩) HSM.out)
 have CST:=Za (fun (W':World) (L:Below w13.heap.size w13 W')=>ZlQ s _ W' (show St5.In s _ _ from⟨ams,cms,aws,cws,rfl,(HKW.out W' L).1.mv,(HKW.out W' L).1.wv⟩) HSM.out)
 rw [HOS.out] at CIT CST
 have BLo:=Za ((Below.refl w13.heap.size w13).drew)
 refine Zt (S:=fun W'=>Below w13.heap.size w13 W') (fuel:=10) [0,1,2,3,4,5] (by kernel_rfl) (by kernel_rfl) (by kernel_rfl) (by kernel_rfl) BLo.out (fun _=>?_)
 iterate 6 (refine⟨_,rfl,?_⟩;(first | refine⟨undef,Or.inr ⟨by rfl,rfl⟩,?_⟩ | (apply Exists.intro;refine⟨Or.inl ⟨by rfl,fun w' hw'=>?_⟩,?_⟩;(focus (obtain⟨e0,e1,e2,e3,e4,e5,e6,e7,e8,e9,e10,e11,e12,e13,e14⟩:=HCL.out w' hw';first | (go_simp;done) | (go_simp;with_reducible rfl)))));simp only [Act.put,List.getElem_toArray,List.getElem_cons_succ,List.getElem_cons_zero,List.setIfInBounds_toArray,List.set_cons_zero,List.set_cons_succ])
 refine Zc 6 (by kernel_rfl) rfl (fun K hK=>?_)
 go_simp
 refine (CLK.out _ BLo.out).mono ?_
 rintro e v6 ⟨rfl,Xv6⟩
 have Lv6:=Zd BLo.out Xv6
 refine hK.out _ _ Lv6 (fun _=>?_)
 clear hK K Xv6
 refine Zo 4 [7,8,9,10,12] (by kernel_rfl) (by kernel_rfl) (by kernel_rfl) Lv6 ?_
 iterate 5 (refine⟨_,rfl,?_⟩;(first | refine⟨undef,Or.inr ⟨by rfl,rfl⟩,?_⟩ | (apply Exists.intro;refine⟨Or.inl ⟨by rfl,fun w' hw'=>?_⟩,?_⟩;(focus (obtain⟨e0,e1,e2,e3,e4,e5,e6,e7,e8,e9,e10,e11,e12,e13,e14⟩:=HCL.out w' hw';first | (go_simp;done) | (go_simp;with_reducible rfl)))));simp only [Act.put,List.getElem_toArray,List.getElem_cons_succ,List.getElem_cons_zero,List.setIfInBounds_toArray,List.set_cons_zero,List.set_cons_succ])
 refine Zc 11 (by kernel_rfl) rfl (fun K hK=>?_)
 go_simp
 refine (CIT.out _ Lv6).mono ?_
 rintro e v11 ⟨rfl,Xv11⟩
 have Lv11:=Zd Lv6 Xv11
 refine hK.out _ _ Lv11 (fun _=>?_)
 clear hK K Xv11
 refine Zc 13 (by kernel_rfl) rfl (fun K hK=>?_)
 go_simp
 refine (CST.out _ Lv11).mono ?_
 rintro e v13 ⟨rfl,Xv13⟩
 have Lv13:=Zd Lv11 Xv13
 refine hK.out _ _ Lv13 (fun _=>?_)
 clear hK K Xv13
 refine ZB [14,15] (by kernel_rfl) (by kernel_rfl) (by kernel_rfl) (by kernel_rfl) Lv13 ?_
 iterate 2 (refine⟨_,rfl,?_⟩;(first | refine⟨undef,Or.inr ⟨by rfl,rfl⟩,?_⟩ | (apply Exists.intro;refine⟨Or.inl ⟨by rfl,fun w' hw'=>?_⟩,?_⟩;(focus (obtain⟨e0,e1,e2,e3,e4,e5,e6,e7,e8,e9,e10,e11,e12,e13,e14⟩:=HCL.out w' hw';first | (go_simp;done) | (go_simp;with_reducible rfl)))));simp only [Act.put,List.getElem_toArray,List.getElem_cons_succ,List.getElem_cons_zero,List.setIfInBounds_toArray,List.set_cons_zero,List.set_cons_succ])
 refine NoPanic.normal (NoPanic.normal ?_)
 have LX:=Lv13
 replace Bs:=Za (Bs.out.below LX)
 replace Ba:=Za (Ba.out.below LX)
 replace Bg:=Za (Bg.out.below LX)
 replace Bb:=Za (Bb.out.below LX)
 replace Bn:=Za (Bn.out.below LX)
 replace Bc:=Za (Bc.out.below LX)
 replace HP:=Za (Zs.next HP.out LX)
 replace HB:=Za (Zd HB.out LX)
 clear HCL HKW CLK CIT CST BLo LX Lv6 Lv11 Lv13
 clear Bc
 go_upto_region 12 with fail
 have HCL:=Za (Zm4 g _ gx v13 (show St5.In g _ _ from⟨amg,cmg,awg,cwg,rfl,Bg.out.mv,Bg.out.wv⟩) HGSM.out)
 rw [HBF.out.1,HBF.out.2] at HCL
 have kg0:=Bg.out.c0
 have kg1:=Bg.out.c1
 have kg2:=Bg.out.c2
 have kg3:=Bg.out.c3
 have kg4:=Bg.out.c4
 go_wp2_with fail
 refine (HCL.out).mono ?_
 rintro e w17 ⟨x,rfl,⟨amh,cmh,awh,cwh,rfl,hmh,hwh⟩,LC⟩
 clear kg0 kg1 kg2 kg3 kg4
 obtain⟨w18,hQ⟩:∃W,w17.alloc (.cells #[.int .i64 b.wd,.slice amh b.ms.length cmh,.int .i64 b.d,.slice awh b.ts.length cwh,.int .i64 b.nx] 52)=W:=⟨_,rfl⟩
 have LD:Below w17.heap.size w17 w18:=by rw [<-hQ];exact (Below.refl _ _).alloc (Nat.le_refl _) _
 have hI:Z7 true w18 w17.heap.size amh awh cmh cwh b.wd b.ms b.d b.ts b.nx:=by rw [<-hQ];exact Z7.box hmh hwh
 have Bh:=Za hI
 have HQ:=Za hQ
 have LX:=Zd LC LD
 replace Bs:=Za (Bs.out.below LX)
 replace Ba:=Za (Ba.out.below LX)
 replace Bg:=Za (Bg.out.below LX)
 replace Bb:=Za (Bb.out.below LX)
 replace Bn:=Za (Bn.out.below LX)
 replace HP:=Za (Zs.next HP.out LX)
 replace HB:=Za (Zd HB.out LX)
 clear hmh hwh hI hQ LC LD LX
 go_upto_region 13 with fail
 rw [HQ.out]
 clear HQ
 have hff:(f !=f)=false:=by simp
 replace HCL:=Za (Zem b _ _ w18 (show St5.In b _ _ from⟨amb,cmb,awb,cwb,rfl,Bb.out.mv,Bb.out.wv⟩) (show St5.In b _ _ from⟨amh,cmh,awh,cwh,rfl,Bh.out.mv,Bh.out.wv⟩) HBSM.out)
 have kb0:=Bb.out.c0
 have kb1:=Bb.out.c1
 have kb2:=Bb.out.c2
 have kb3:=Bb.out.c3
 have kb4:=Bb.out.c4
 have kh0:=Bh.out.c0
 have kh1:=Bh.out.c1
 have kh2:=Bh.out.c2
 have kh3:=Bh.out.c3
 have kh4:=Bh.out.c4
 go_wp2_with fail
 refine (HCL.out).mono ?_
 rintro e w19 ⟨rfl,LC⟩
 clear kb0 kb1 kb2 kb3 kb4
 clear kh0 kh1 kh2 kh3 kh4
 replace Bs:=Za (Bs.out.below LC)
 replace Ba:=Za (Ba.out.below LC)
 replace Bg:=Za (Bg.out.below LC)
 replace Bb:=Za (Bb.out.below LC)
 replace Bn:=Za (Bn.out.below LC)
 replace Bh:=Za (Bh.out.below LC)
 replace HP:=Za (Zs.next HP.out LC)
 replace HB:=Za (Zd HB.out LC)
 clear LC
 clear Bh HCL
 go_upto_region 15 with fail
 have HCL:=Za (Zol nw w19)
 rw [HNO.out.1,HNO.out.2] at HCL
 go_wp2_with fail
 refine (HCL.out).mono ?_
 rintro e w20 ⟨x,rfl,⟨amm,cmm,awm,cwm,rfl,hmm,hwm⟩,LC⟩
 obtain⟨w21,hQ⟩:∃W,w20.alloc (.cells #[.int .i64 n.wd,.slice amm n.ms.length cmm,.int .i64 n.d,.slice awm n.ts.length cwm,.int .i64 n.nx] 52)=W:=⟨_,rfl⟩
 have LD:Below w20.heap.size w20 w21:=by rw [<-hQ];exact (Below.refl _ _).alloc (Nat.le_refl _) _
 have hI:Z7 true w21 w20.heap.size amm awm cmm cwm n.wd n.ms n.d n.ts n.nx:=by rw [<-hQ];exact Z7.box hmm hwm
 have Bm:=Za hI
 have HQ:=Za hQ
 have LX:=Zd LC LD
 replace Bs:=Za (Bs.out.below LX)
 replace Ba:=Za (Ba.out.below LX)
 replace Bg:=Za (Bg.out.below LX)
 replace Bb:=Za (Bb.out.below LX)
 replace Bn:=Za (Bn.out.below LX)
 replace HP:=Za (Zs.next HP.out LX)
 replace HB:=Za (Zd HB.out LX)
 clear hmm hwm hI hQ LC LD LX
 go_upto_region 16 with fail
 rw [HQ.out]
 clear HQ
 have hnn:(o !=o)=false:=by simp
 replace HCL:=Za (Zem n _ _ w21 (show St5.In n _ _ from⟨amn,cmn,awn,cwn,rfl,Bn.out.mv,Bn.out.wv⟩) (show St5.In n _ _ from⟨amm,cmm,awm,cwm,rfl,Bm.out.mv,Bm.out.wv⟩) HNSM.out)
 have HCI:=Za (fun (W':World) (L:Below w21.heap.size w21 W')=>Zjy n _ W' (show St5.In n _ _ from⟨amn,cmn,awn,cwn,rfl,(Bn.out.below L).mv,(Bn.out.below L).wv⟩) HNSM.out)
 have HR:=Za (Below.refl w21.heap.size w21)
 go_cut [112] from 96 to 111 (fun v wx=>v=.bool false/\Below w21.heap.size w21 wx)
 case first=>
  cases o with
  | false=>
    have kn0:=Bn.out.c0
    have kn1:=Bn.out.c1
    have kn2:=Bn.out.c2
    have kn3:=Bn.out.c3
    have kn4:=Bn.out.c4
    have km0:=Bm.out.c0
    have km1:=Bm.out.c1
    have km2:=Bm.out.c2
    have km3:=Bm.out.c3
    have km4:=Bm.out.c4
    go_wp2_with fail
    refine (HCL.out).mono ?_
    rintro e w22 ⟨rfl,LC⟩
    clear kn0 kn1 kn2 kn3 kn4
    clear km0 km1 km2 km3 km4
    replace Bs:=Za (Bs.out.below LC)
    replace Ba:=Za (Ba.out.below LC)
    replace Bg:=Za (Bg.out.below LC)
    replace Bb:=Za (Bb.out.below LC)
    replace Bn:=Za (Bn.out.below LC)
    replace Bm:=Za (Bm.out.below LC)
    replace HP:=Za (Zs.next HP.out LC)
    replace HB:=Za (Zd HB.out LC)
    replace HR:=Za (Zd HR.out LC)
    clear LC
    go_wp2_with fail
    go_meet
    exact⟨rfl,HR.out⟩
  | true=>
    have kn0:=Bn.out.c0
    have kn1:=Bn.out.c1
    have kn2:=Bn.out.c2
    have kn3:=Bn.out.c3
    have kn4:=Bn.out.c4
    have km0:=Bm.out.c0
    have km1:=Bm.out.c1
    have km2:=Bm.out.c2
    have km3:=Bm.out.c3
    have km4:=Bm.out.c4
    go_wp2_with fail
    refine (HCL.out).mono ?_
    rintro e w22 ⟨rfl,LC⟩
    clear kn0 kn1 kn2 kn3 kn4
    clear km0 km1 km2 km3 km4
    replace Bs:=Za (Bs.out.below LC)
    replace Ba:=Za (Ba.out.below LC)
    replace Bg:=Za (Bg.out.below LC)
    replace Bb:=Za (Bb.out.below LC)
    replace Bn:=Za (Bn.out.below LC)
    replace Bm:=Za (Bm.out.below LC)
    replace HP:=Za (Zs.next HP.out LC)
    replace HB:=Za (Zd HB.out LC)
    replace HR:=Za (Zd HR.out LC)
    replace HCI:=Za (HCI.out w22 LC)
    rw [HNF.out (by simp)] at HCI
    clear LC
    have kn0:=Bn.out.c0
    have kn1:=Bn.out.c1
    have kn2:=Bn.out.c2
    have kn3:=Bn.out.c3
    have kn4:=Bn.out.c4
    go_wp2_with fail
    refine (HCI.out).mono ?_
    rintro e w23 ⟨rfl,LC⟩
    clear kn0 kn1 kn2 kn3 kn4
    replace Bs:=Za (Bs.out.below LC)
    replace Ba:=Za (Ba.out.below LC)
    replace Bg:=Za (Bg.out.below LC)
    replace Bb:=Za (Bb.out.below LC)
    replace Bn:=Za (Bn.out.below LC)
    replace Bm:=Za (Bm.out.below LC)
    replace HP:=Za (Zs.next HP.out LC)
    replace HB:=Za (Zd HB.out LC)
    replace HR:=Za (Zd HR.out LC)
    clear LC
    go_wp2_with fail
    go_meet
    exact⟨rfl,HR.out⟩
 case rest=>
  obtain⟨rfl,LC⟩:=hcut
  clear Bm HCL HR HCI hnn
  replace Bs:=Za (Bs.out.below LC)
  replace Ba:=Za (Ba.out.below LC)
  replace Bg:=Za (Bg.out.below LC)
  replace Bb:=Za (Bb.out.below LC)
  replace Bn:=Za (Bn.out.below LC)
  replace HP:=Za (Zs.next HP.out LC)
  replace HB:=Za (Zd HB.out LC)
  clear LC
  go_upto_region 18 with fail
  have HGF:=Za (ZiQ g gx)
  rw [HBF.out.1,HBF.out.2] at HGF
  obtain⟨og,hog⟩:∃r,g.ok=r:=⟨_,rfl⟩
  rw [hog] at HGF
  have HCL:=Za (ZlQ g _ _ (show St5.In g _ _ from⟨amg,cmg,awg,cwg,rfl,Bg.out.mv,Bg.out.wv⟩) HGSM.out)
  rw [hog] at HCL
  clear hog
  have kg0:=Bg.out.c0
  have kg1:=Bg.out.c1
  have kg2:=Bg.out.c2
  have kg3:=Bg.out.c3
  have kg4:=Bg.out.c4
  go_wp2_with fail
  refine (HCL.out).mono ?_
  rintro e w30 ⟨rfl,LC⟩
  clear kg0 kg1 kg2 kg3 kg4
  replace Bs:=Za (Bs.out.below LC)
  replace Ba:=Za (Ba.out.below LC)
  replace Bg:=Za (Bg.out.below LC)
  replace Bb:=Za (Bb.out.below LC)
  replace Bn:=Za (Bn.out.below LC)
  replace HP:=Za (Zs.next HP.out LC)
  replace HB:=Za (Zd HB.out LC)
  clear LC
  clear HCL
  go_upto_if 114 with fail
  have HR:=Za (Below.refl w30.heap.size w30)
  go_cut [20,21,114] from 115 to 155 (fun _ _ _ wx=>Below w30.heap.size w30 wx)
  case first=>
   cases og with
   | false=>
     go_wp2_with fail
     go_meet
     exact HR.out
   | true=>
     obtain⟨G1,G2,G3,G4,G5,G6⟩:=HGF.out (by simp)
     have HG4:=Za G4
     have HG5:=Za G5
     have HB2:Hid (Z7 true w30 w7.heap.size amb awb cmb cwb b.wd b.ms g.d g.ts b.nx):=by have h:=Bb.out;rw [G2,G3] at h;exact h
     have CI:=Za (fun (W':World) (L:Below w30.heap.size w30 W')=>Zjy b _ W' (show St5.In b _ _ from⟨amb,cmb,awb,cwb,rfl,(Bb.out.below L).mv,(Bb.out.below L).wv⟩) HBSM.out)
     have CG:=Za (fun (W':World) (L:Below w30.heap.size w30 W')=>Zjx b _ gx W' (show St5.In b _ _ from⟨amb,cmb,awb,cwb,rfl,(Bb.out.below L).mv,(Bb.out.below L).wv⟩) HBSM.out)
     have CT:=Za (fun (W':World) (L:Below w30.heap.size w30 W')=>Zle awb awg cwb cwg g.d g.ts W' (HB2.out.below L).wv (Bg.out.below L).wv HGSM.out.2.1)
     rw [G1,G2,G3] at CI
     rw [G6,G2,G3] at CG
     obtain⟨b3,hb3⟩:∃x,Zbq b gx=x:=⟨_,rfl⟩
     rw [hb3] at CG
     clear Bb G1 G2 G3 G4 G5 G6 hb3
     have Bb:=Za HB2.out
     clear HB2
     replace CI:=Za (CI.out w30 (Below.refl _ _))
     have kb0:=Bb.out.c0
     have kb1:=Bb.out.c1
     have kb2:=Bb.out.c2
     have kb3:=Bb.out.c3
     have kb4:=Bb.out.c4
     go_wp2_with fail
     refine (CI.out).mono ?_
     rintro e w31 ⟨rfl,LC⟩
     clear kb0 kb1 kb2 kb3 kb4
     replace Bs:=Za (Bs.out.below LC)
     replace Ba:=Za (Ba.out.below LC)
     replace Bg:=Za (Bg.out.below LC)
     replace Bn:=Za (Bn.out.below LC)
     replace Bb:=Za (Bb.out.below LC)
     replace HP:=Za (Zs.next HP.out LC)
     replace HB:=Za (Zd HB.out LC)
     replace HR:=Za (Zd HR.out LC)
     clear LC
     clear CI
     cases f with
     | false=>
       obtain rfl:b=g:=HG4.out (by simp)
       have CK:=Za (Zem b _ _ w31 (show St5.In b _ _ from⟨amb,cmb,awb,cwb,rfl,Bb.out.mv,Bb.out.wv⟩) (show St5.In b _ _ from⟨amg,cmg,awg,cwg,rfl,Bg.out.mv,Bg.out.wv⟩) HBSM.out)
       clear HG4 HG5
       have kb0:=Bb.out.c0
       have kb1:=Bb.out.c1
       have kb2:=Bb.out.c2
       have kb3:=Bb.out.c3
       have kb4:=Bb.out.c4
       have kg0:=Bg.out.c0
       have kg1:=Bg.out.c1
       have kg2:=Bg.out.c2
       have kg3:=Bg.out.c3
       have kg4:=Bg.out.c4
       go_wp2_with fail
       refine (CK.out).mono ?_
       rintro e w32 ⟨rfl,LC⟩
       clear kb0 kb1 kb2 kb3 kb4
       clear kg0 kg1 kg2 kg3 kg4
       replace Bs:=Za (Bs.out.below LC)
       replace Ba:=Za (Ba.out.below LC)
       replace Bg:=Za (Bg.out.below LC)
       replace Bn:=Za (Bn.out.below LC)
       replace Bb:=Za (Bb.out.below LC)
       replace HP:=Za (Zs.next HP.out LC)
       replace HB:=Za (Zd HB.out LC)
       replace HR:=Za (Zd HR.out LC)
       clear LC
       clear CK
       replace CT:=Za (CT.out _ HR.out)
       have kb0:=Bb.out.c0
       have kb1:=Bb.out.c1
       have kb2:=Bb.out.c2
       have kb3:=Bb.out.c3
       have kb4:=Bb.out.c4
       have kg0:=Bg.out.c0
       have kg1:=Bg.out.c1
       have kg2:=Bg.out.c2
       have kg3:=Bg.out.c3
       have kg4:=Bg.out.c4
       go_wp2_with fail
       refine (CT.out).mono ?_
       rintro e w33 ⟨rfl,LC⟩
       clear kb0 kb1 kb2 kb3 kb4
       clear kg0 kg1 kg2 kg3 kg4
       replace Bs:=Za (Bs.out.below LC)
       replace Ba:=Za (Ba.out.below LC)
       replace Bg:=Za (Bg.out.below LC)
       replace Bn:=Za (Bn.out.below LC)
       replace Bb:=Za (Bb.out.below LC)
       replace HP:=Za (Zs.next HP.out LC)
       replace HB:=Za (Zd HB.out LC)
       replace HR:=Za (Zd HR.out LC)
       clear LC
       clear CT
       go_upto_region 21 with fail
       replace CG:=Za (CG.out _ HR.out)
       have kb0:=Bb.out.c0
       have kb1:=Bb.out.c1
       have kb2:=Bb.out.c2
       have kb3:=Bb.out.c3
       have kb4:=Bb.out.c4
       go_wp2_with fail
       refine (CG.out).mono ?_
       rintro e w34 ⟨x,rfl,⟨amz,cmz,awz,cwz,rfl,hmz,hwz⟩,LC⟩
       clear kb0 kb1 kb2 kb3 kb4
       clear CG
       replace HR:=Za (Zd HR.out LC)
       clear LC hmz hwz
       go_wp2_with fail
       go_meet
       exact Zd HR.out ((Below.refl _ _).alloc (Nat.le_refl _) _)
     | true=>
       have hl2:wrap64 ((g.ms.length:Int)-1)=(b.ms.length:Int):=by
        have h1:=HG5.out (by simp)
        have h2:=HGSM.out.1.1
        have e:(g.ms.length:Int)-1=(b.ms.length:Int):=by omega
        rw [e];unfold wrap64;omega
       clear HG4 HG5
       replace CT:=Za (CT.out _ HR.out)
       have kb0:=Bb.out.c0
       have kb1:=Bb.out.c1
       have kb2:=Bb.out.c2
       have kb3:=Bb.out.c3
       have kb4:=Bb.out.c4
       have kg0:=Bg.out.c0
       have kg1:=Bg.out.c1
       have kg2:=Bg.out.c2
       have kg3:=Bg.out.c3
       have kg4:=Bg.out.c4
       go_wp2_with fail
       refine (CT.out).mono ?_
       rintro e w33 ⟨rfl,LC⟩
       clear kb0 kb1 kb2 kb3 kb4
       clear kg0 kg1 kg2 kg3 kg4
       replace Bs:=Za (Bs.out.below LC)
       replace Ba:=Za (Ba.out.below LC)
       replace Bg:=Za (Bg.out.below LC)
       replace Bn:=Za (Bn.out.below LC)
       replace Bb:=Za (Bb.out.below LC)
       replace HP:=Za (Zs.next HP.out LC)
       replace HB:=Za (Zd HB.out LC)
       replace HR:=Za (Zd HR.out LC)
       clear LC
       clear CT
       go_upto_region 21 with fail
       replace CG:=Za (CG.out _ HR.out)
       have kb0:=Bb.out.c0
       have kb1:=Bb.out.c1
       have kb2:=Bb.out.c2
       have kb3:=Bb.out.c3
       have kb4:=Bb.out.c4
       go_wp2_with fail
       refine (CG.out).mono ?_
       rintro e w34 ⟨x,rfl,⟨amz,cmz,awz,cwz,rfl,hmz,hwz⟩,LC⟩
       clear kb0 kb1 kb2 kb3 kb4
       clear CG
       replace HR:=Za (Zd HR.out LC)
       clear LC hmz hwz
       go_wp2_with fail
       go_meet
       exact Zd HR.out ((Below.refl _ _).alloc (Nat.le_refl _) _)
  case rest=>
   have LC:=hcut
   clear hcut HR HGF HBF Bb HBSM HGSM
   clear Bg Bn HNO HNSM HNF
   replace Bs:=Za (Bs.out.below LC)
   replace Ba:=Za (Ba.out.below LC)
   replace HP:=Za (Zs.next HP.out LC)
   replace HB:=Za (Zd HB.out LC)
   clear LC
   go_upto_region 24 with fail
   have HT1:=Za (ZlV s p)
   have HT2:=Za (Zkm s p)
   have HT3:=Za (Zkn s p)
   rw [HA.out.1,HA.out.2,HOS.out] at HT1
   rw [HA.out.1,HA.out.2,HOS.out] at HT2
   rw [HA.out.1,HA.out.2,HOS.out] at HT3
   have HCL:=Za (ZlQ s _ _ (show St5.In s _ _ from⟨ams,cms,aws,cws,rfl,Bs.out.mv,Bs.out.wv⟩) HSM.out)
   rw [HOS.out] at HCL
   clear HA
   have ks0:=Bs.out.c0
   have ks1:=Bs.out.c1
   have ks2:=Bs.out.c2
   have ks3:=Bs.out.c3
   have ks4:=Bs.out.c4
   go_wp2_with fail
   refine (HCL.out).mono ?_
   rintro e w40 ⟨rfl,LC⟩
   clear ks0 ks1 ks2 ks3 ks4
   replace Bs:=Za (Bs.out.below LC)
   replace Ba:=Za (Ba.out.below LC)
   replace HP:=Za (Zs.next HP.out LC)
   replace HB:=Za (Zd HB.out LC)
   clear LC
   clear HCL
   cases os with
   | false=>
     obtain⟨rfl,rfl⟩:=HT1.out (by simp)
     have HCL:=Za (Zem Zf9 _ _ w40 (show St5.In Zf9 _ _ from⟨ama,cma,awa,cwa,rfl,Ba.out.mv,Ba.out.wv⟩) (StV.zero w40) HASM.out)
     have k0:w40.cell? ⟨w3.heap.size,0,none⟩=some (.int .i64 0):=Ba.out.c0
     have k1:w40.cell? ⟨w3.heap.size,1,none⟩=some (.slice ama 0 cma):=Ba.out.c1
     have k2:w40.cell? ⟨w3.heap.size,2,none⟩=some (.int .i64 0):=Ba.out.c2
     have k3:w40.cell? ⟨w3.heap.size,3,none⟩=some (.slice awa 0 cwa):=Ba.out.c3
     have k4:w40.cell? ⟨w3.heap.size,4,none⟩=some (.int .i64 0):=Ba.out.c4
     clear HT1 HT2 HT3
     go_wp2_with fail
     refine (HCL.out).mono ?_
     rintro e w41 ⟨rfl,LC⟩
     replace HB:=Za (Zd HB.out LC)
     clear LC k0 k1 k2 k3 k4
     go_wp2_with fail
     all_goals (go_ret;exact⟨rfl,HB.out⟩)
   | true=>
     by_cases hneg:r<0
     ·
      obtain rfl:a=s:=HT2.out (by simp) hneg
      clear HT1 HT2 HT3
      have HCL:=Za (Zem a _ _ w40 (show St5.In a _ _ from⟨ama,cma,awa,cwa,rfl,Ba.out.mv,Ba.out.wv⟩) (show St5.In a _ _ from⟨ams,cms,aws,cws,rfl,Bs.out.mv,Bs.out.wv⟩) HASM.out)
      have hn0:decide (r<0)=true:=decide_eq_true hneg
      have ka0:=Ba.out.c0
      have ka1:=Ba.out.c1
      have ka2:=Ba.out.c2
      have ka3:=Ba.out.c3
      have ka4:=Ba.out.c4
      have ks0:=Bs.out.c0
      have ks1:=Bs.out.c1
      have ks2:=Bs.out.c2
      have ks3:=Bs.out.c3
      have ks4:=Bs.out.c4
      go_wp2_with fail
      refine (HCL.out).mono ?_
      rintro e w41 ⟨rfl,LC⟩
      clear ka0 ka1 ka2 ka3 ka4
      clear ks0 ks1 ks2 ks3 ks4
      replace Bs:=Za (Bs.out.below LC)
      replace Ba:=Za (Ba.out.below LC)
      replace HP:=Za (Zs.next HP.out LC)
      replace HB:=Za (Zd HB.out LC)
      clear LC
      clear HCL
      go_wp2_with fail
      go_ret
      exact⟨rfl,HB.out⟩
     ·
      obtain⟨U1,U2,U3,U4,U5⟩:=HT3.out (by simp) (by omega)
      have hn0:decide (r<0)=false:=decide_eq_false hneg
      obtain⟨ee,hee⟩:∃l,exL a.wd a.ms a.d a.ts a.nx p 1=l:=⟨_,rfl⟩
      have HCL:=Za (ZlR a _ aq cq p 1 w40 (show St5.In a _ _ from⟨ama,cma,awa,cwa,rfl,Ba.out.mv,Ba.out.wv⟩) HASM.out HP.out (by have:=HPL.out;omega) HPC.out)
      rw [hee] at U4 U5 HCL
      have HU:=Za (And.intro U2 (And.intro U3 (And.intro U4 U5)))
      have HU1:=Za U1
      clear HT1 HT2 HT3 U1 U2 U3 U4 U5 hee
      have ka0:=Ba.out.c0
      have ka1:=Ba.out.c1
      have ka2:=Ba.out.c2
      have ka3:=Ba.out.c3
      have ka4:=Ba.out.c4
      go_wp2_with fail
      refine (HCL.out).mono ?_
      rintro e w42 ⟨ae,ce,rfl,hve,LC⟩
      clear ka0 ka1 ka2 ka3 ka4
      have HEV:=Za hve
      replace Bs:=Za (Bs.out.below LC)
      replace Ba:=Za (Ba.out.below LC)
      replace HP:=Za (Zs.next HP.out LC)
      replace HB:=Za (Zd HB.out LC)
      clear LC hve HCL
      have HCL:=Za (Zjy a _ w42 (show St5.In a _ _ from⟨ama,cma,awa,cwa,rfl,Ba.out.mv,Ba.out.wv⟩) HASM.out)
      rw [HU1.out] at HCL
      have ka0:=Ba.out.c0
      have ka1:=Ba.out.c1
      have ka2:=Ba.out.c2
      have ka3:=Ba.out.c3
      have ka4:=Ba.out.c4
      go_wp2_with fail
      refine (HCL.out).mono ?_
      rintro e w43 ⟨rfl,LC⟩
      clear ka0 ka1 ka2 ka3 ka4
      replace HEV:=Za (Za3.next HEV.out LC)
      replace Bs:=Za (Bs.out.below LC)
      replace Ba:=Za (Ba.out.below LC)
      replace HP:=Za (Zs.next HP.out LC)
      replace HB:=Za (Zd HB.out LC)
      clear LC HCL
      obtain⟨Q1,Q2,Q3,Q4⟩:=HU.out
      obtain⟨eb,eo,rfl,heb,hes⟩:=HEV.out.seg (by omega)
      obtain⟨y0,y1⟩:=hes 0 (by omega)
      rw [Q4] at y1
      have hnx:=ZdU (show stB a.wd a.ms a.d a.ts a.nx=true from HU1.out)
      have ks3:=Bs.out.c4
      have ka3:=Ba.out.c4
      have hq3:(ee.length:Int)=1:=by omega
      have hq3':(0:Int)<(ee.length:Int):=by omega
      have hw3:wrap64 (s.nx+1)=a.nx:=by rw [<-Q2];unfold wrap64;omega
      have y1':w43.cell? ⟨eb,eo+1,none⟩=some (.int .i64 0):=by simpa using y1
      clear hes Q3 Q4
      go_wp2_with fail
      go_ret
      exact⟨rfl,HB.out⟩
end Go.Proofs.YtaaagmgglolibaaGreat
