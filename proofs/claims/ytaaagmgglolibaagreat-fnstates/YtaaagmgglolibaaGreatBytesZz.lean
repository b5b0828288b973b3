import Derived.Test.YtaaagmgglolibaaGreatArgsZz
import Derived.Test.YtaaagmgglolibaaGreatMovedSZz
import Derived.Test.YtaaagmgglolibaaGreatMathZz
import Derived.Test.YtaaagmgglolibaaGreatMCopyZz
import Derived.Test.YtaaagmgglolibaaGreatGnCpyZz
import Derived.Test.YtaaagmgglolibaaGreatFeHelpZz
import Derived.Test.YtaaagmgglolibaaGreatLastZz
import Derived.Test.YtaaagmgglolibaaGreatGnStZz
import Derived.Test.YtaaagmgglolibaaGreatMDrawZz
import Derived.Test.YtaaagmgglolibaaGreatCopyZz
import Derived.Test.YtaaagmgglolibaaGreatHSpecZz
set_option maxRecDepth 100000
set_option maxHeartbeats 8000000
namespace Go.Proofs.YtaaagmgglolibaaGreat
open Go Go.RowKit
theorem ZkT.code{w:World}{a:Option Addr}{len cap:Nat}{zs:List Int}(h:ZkT .u8 w a len cap zs):ZW w a len/\len<=maxLen:=by
 rcases h with ⟨rfl,rfl,rfl,rfl⟩ | ⟨x,rfl,hl,hm,hz,hcell,hwz⟩
 · exact⟨Or.inl rfl,Nat.zero_le _⟩
 · refine⟨?_,by omega⟩
   rcases Nat.eq_zero_or_pos len with h0 | h0
   · exact Or.inl h0
   · obtain⟨b,off,spot⟩:=x
     have hc:=hcell 0 (by omega)
     have hspot:spot=none:=by simpa [Addr.add] using World.cell?_spot hc
     subst hspot
     refine Or.inr ⟨b,off,rfl,by simpa [Addr.add] using Zje hc,fun i hi=>?_⟩
     have hi2:i<zs.length:=by omega
     have h1:=hcell i hi2
     have hb:=bounds_u8 (hwz (zs.getD i 0) (by simp [List.getD,hi2]))
     refine⟨zs.getD i 0,hb.1,hb.2,?_⟩
     by_cases h0:i=0
     · subst h0;simpa [Addr.add] using h1
     · simpa [Addr.add,h0] using h1
theorem bigC(ao:Option Addr)(n cap:Nat)(w:World):
 Calls Tryz.prog 12 #[.slice ao n cap] w fun e w'=>e=.returned (.bool (decide (4096<(n:Int))))/\w=w':=by
 go_enter Tryz.func12,Tryz.ntmps12
 go_wp2
 go_ret
 exact⟨rfl,rfl⟩
theorem ZjK{H:Type}{enc:TypeId×Value->H}{W:World}{n:Nat}{a:Option Addr}{len cap:Nat}{x:DataW H×List MemPlace}(h:DataW.trod enc Tryz.prog W 0 (fun _=>true) true n 22 [.slice a len cap]=some x):
 ZW W a len/\len<=maxLen:=by
 rcases Go.ChangeShapes.open_ints Tryz.underlying22 Tryz.underlying5 (by kernel_rfl) h with ⟨hcs,_⟩ | ⟨y,l,c,zs,hcs,_,hl,hm,hz,_,hcell,hwz⟩
 · simp at hcs
   obtain⟨rfl,rfl,rfl⟩:=hcs
   exact⟨Or.inl rfl,Nat.zero_le _⟩
 · simp at hcs
   obtain⟨rfl,rfl,rfl⟩:=hcs
   have hr:ZkT .u8 W (some y) len cap zs:=.inr ⟨_,rfl,hl,hm,by simpa using hz,hcell,hwz⟩
   exact hr.code
theorem Zgo(q:Nat)(ao:Option Addr)(n cap:Nat)(m:Int)(w:World)(hc:Cur w q ao n cap)(hv:ZW w ao n)(hn:n<=4096)(h0:1<=m):
 Calls Tryz.prog 97 #[.pointer (some ⟨q,0,none⟩),.int .i64 m] w fun e w'=>(∃x:Int,0<=x/\x<m/\e=.returned (.int .i64 x))/\Cur w' q ao n cap/\w.grownBy w' (some q):=by
 by_cases hm:m<=256
 · exact ZaV q ao n cap m w hc hv hn h0 hm
 have h2:¬m<=0:=by omega
 have h3:(m ==0)=false:=by simp;omega
 go_enter Tryz.func97,Tryz.ntmps97
 go_wp2_with fail
 refine (Zg0 q ao n cap _ hc hv hn).mono ?_
 rintro e w1 ⟨⟨x,hx0,hx1,rfl⟩,c1,g1⟩
 have hv1:=hv.grown hc g1
 clear hc hv
 go_wp2_with fail
 refine (Zg0 q ao n cap _ c1 hv1 hn).mono ?_
 rintro e w2 ⟨⟨y,hy0,hy1,rfl⟩,c2,g2⟩
 have hv2:=hv1.grown c1 g2
 have G2:=Zh g1 g2
 clear c1 hv1 g1 g2
 go_wp2_with fail
 refine (Zg0 q ao n cap _ c2 hv2 hn).mono ?_
 rintro e w3 ⟨⟨z,hz0,hz1,rfl⟩,c3,g3⟩
 have hv3:=hv2.grown c2 g3
 have G3:=Zh G2 g3
 clear c2 hv2 g3 G2
 go_wp2_with fail
 refine (Zg0 q ao n cap _ c3 hv3 hn).mono ?_
 rintro e w4 ⟨⟨u,hu0,hu1,rfl⟩,c4,g4⟩
 have G4:=Zh G3 g4
 clear c3 hv3 g4 G3
 go_wp2_with fail
 go_ret
 refine⟨⟨(x*16777216+y*65536+z*256+u) % m,Int.emod_nonneg _ (by omega),Int.emod_lt_of_pos _ (by omega),?_⟩,c4,G4⟩
 first | rfl | (rw [Int.emod_eq_tmod_of_nonneg (by omega)])
theorem Zjf{d:Int}{ts:List Wb}(h:ZZ d ts=true):ZaB ts:=by
 refine⟨by have:=(ZaW h).1;omega,fun i=>?_⟩
 rcases Nat.lt_or_ge i 4 with h1 | h1
 · exact Zjg (Zcd h h1)
 · have hl:ts.length<=i:=by have:=(ZaW h).1;omega
   have:Zl ts i=([],[]):=by unfold Zl;rw [List.getD_eq_getElem?_getD,List.getElem?_eq_none hl];rfl
   rw [this]
   exact⟨⟨by simp,fun i=>by simp [mat]⟩,⟨by simp,fun i=>by simp [cn]⟩⟩
theorem ZeQ{d y:Int}{ts:List Wb}(h:ZZ d ts=true)(hy:0<=y/\y<1000003):ZZ y ts=true:=
 ZeR (by simp [inR];omega) (ZaW h).1 (ZaW h).2
structure Zb1(w wr:World)(q:Nat)(ao:Option Addr)(n cap T B0 g c:Nat)(ds:List Dm)(d:Int)(v:Value)(ts:List Wb):Prop where
 cur:Cur wr q ao n cap
 gr:w.grownBy wr (some q)
 r0:Two wr w.heap.size (.int .i64 0) (.slice none 0 0) 26
 t0:Two wr T (.int .i64 d) v 26
 dr:ZL B0 wr g c ds
 web:∃S vm vl,TsR false (w.heap.size+1) wr v ts S vm vl/\∀b,FtR v ts.length S b->b≠T
 ok:ZZ d ts=true
theorem Zb1.go{w wr wy wz:World}{q:Nat}{ao:Option Addr}{n cap T B0 g c:Nat}{ds:List Dm}{d d':Int}{v v':Value}{ts ts':List Wb}(h:Zb1 w wr q ao n cap T B0 g c ds d v ts)(hq:q<w.heap.size)(hT:w.heap.size<T)(hTB:T<B0)(hg:wr.grownBy wy (some q))(hc:Cur wy q ao n cap)
 (hm:wz.os=wy.os/\wz.tape=wy.tape/\wz.output=wy.output) (hs:wz.heap.size=wy.heap.size) (far:∀b,b≠T->wz.heap[b]? =wy.heap[b]?) (ht:Two wz T (.int .i64 d') v' 26) (hw:∃S vm vl,TsR false (w.heap.size+1) wz v' ts' S vm vl/\∀b,FtR v' ts'.length S b->b≠T) (hok:ZZ d' ts'=true):
 Zb1 w wz q ao n cap T B0 g c ds d' v' ts':=by
 have hws:=h.gr.size
 have hys:=hg.size
 have hgz:=Zh h.gr hg
 have hold:∀b,b<wr.heap.size->b≠q->b≠T->wz.heap[b]? =wr.heap[b]? :=fun b h1 h2 h3=>(far b h3).trans (hg.block b h1 (by simp;exact h2))
 refine⟨hc.kept14 (far q (by omega)),⟨hm.1.trans hgz.os,hm.2.1.trans hgz.tape,hm.2.2.trans hgz.output,by rw [hs];exact hgz.size,fun b hb hbq=>(far b (by omega)).trans (hgz.block b hb hbq)⟩,(hold _ h.r0.lt (by omega) (by omega)).trans h.r0,ht,?_,hw,hok⟩
 have h1:=h.dr
 exact⟨Zaa h1.1 (hold g h1.lt.2 (by have:=h1.lt;omega) (by have:=h1.lt;omega)),fun x hx=>⟨(h1.2.1 x hx).1.same (hold x.2.1 (h1.2.1 x hx).1.lt2.2 (by have:=(h1.2.1 x hx).1.lt2;omega) (by have:=(h1.2.1 x hx).1.lt2;omega)),(h1.2.1 x hx).2⟩,h1.2.2⟩
theorem Zb1.dice{w wr wy:World}{q:Nat}{ao:Option Addr}{n cap T B0 g c:Nat}{ds:List Dm}{d y:Int}{v:Value}{ts:List Wb}(h:Zb1 w wr q ao n cap T B0 g c ds d v ts)(hq:q<w.heap.size)(hT:w.heap.size<T)(hTB:T<B0)(hg:wr.grownBy wy (some q))(hc:Cur wy q ao n cap)(hy:0<=y/\y<1000003):
 Zb1 w (wy.setCell ⟨T,0,none⟩ (.int .i64 y)) q ao n cap T B0 g c ds y v ts:=by
 have hws:=h.gr.size
 have far:∀b,b≠T->(wy.setCell ⟨T,0,none⟩ (.int .i64 y)).heap[b]? =wy.heap[b]? :=fun b hb=>Below.heap_setCell wy ⟨T,0,none⟩ _ b hb
 have hsz:(wy.setCell ⟨T,0,none⟩ (.int .i64 y)).heap.size=wy.heap.size:=Zb ..
 have t1:Two wy T (.int .i64 d) v 26:=(hg.block T h.t0.lt (by simp;omega)).trans h.t0
 refine h.go hq hT hTB hg hc ⟨rfl,rfl,rfl⟩ hsz far (t1.set0 _) ?_ (ZeQ h.ok hy)
 obtain⟨S,vm,vl,hr,hn⟩:=h.web
 exact⟨S,vm,vl,hr.sm ⟨by rw [hsz];exact hg.size,fun b hb=>(far b (hn b hb)).trans (hg.block b (hr.bnd b hb).2 (by have:=(hr.bnd b hb).1;simp;omega))⟩,hn⟩
theorem Zb1.stay{w wr wy:World}{q:Nat}{ao:Option Addr}{n cap T B0 g c:Nat}{ds:List Dm}{d:Int}{v:Value}{ts:List Wb}(h:Zb1 w wr q ao n cap T B0 g c ds d v ts)(hq:q<w.heap.size)(hT:w.heap.size<T)(hTB:T<B0)(hg:wr.grownBy wy (some q))(hc:Cur wy q ao n cap):
 Zb1 w wy q ao n cap T B0 g c ds d v ts:=by
 have hws:=h.gr.size
 refine h.go hq hT hTB hg hc ⟨rfl,rfl,rfl⟩ rfl (fun _ _=>rfl) ((hg.block T h.t0.lt (by simp;omega)).trans h.t0) ?_ h.ok
 obtain⟨S,vm,vl,hr,hn⟩:=h.web
 exact⟨S,vm,vl,hr.sm ⟨hg.size,fun b hb=>hg.block b (hr.bnd b hb).2 (by have:=(hr.bnd b hb).1;simp;omega)⟩,hn⟩
theorem Zb1.put{w wr wy:World}{q:Nat}{ao:Option Addr}{n cap T B0 g c:Nat}{ds:List Dm}{d d':Int}{v v':Value}{ts ts':List Wb}(h:Zb1 w wr q ao n cap T B0 g c ds d v ts)(hq:q<w.heap.size)(hT:w.heap.size<T)(hTB:T<B0)(hg:wr.grownBy wy (some q))(hc:Cur wy q ao n cap)(ht:ZdG wr.heap.size wy v' ts')(hok:ZZ d' ts'=true):
 Zb1 w ((wy.setCell ⟨T,0,none⟩ (.int .i64 d')).setCell ⟨T,1,none⟩ v') q ao n cap T B0 g c ds d' v' ts':=by
 have hws:=h.gr.size
 have far:∀b,b≠T->((wy.setCell ⟨T,0,none⟩ (.int .i64 d')).setCell ⟨T,1,none⟩ v').heap[b]? =wy.heap[b]? :=fun b hb=>(Below.heap_setCell _ ⟨T,1,none⟩ _ b hb).trans (Below.heap_setCell wy ⟨T,0,none⟩ _ b hb)
 have hsz:((wy.setCell ⟨T,0,none⟩ (.int .i64 d')).setCell ⟨T,1,none⟩ v').heap.size=wy.heap.size:=by rw [Zb,Zb]
 have hTl:=h.t0.lt
 have t1:Two wy T (.int .i64 d) v 26:=(hg.block T hTl (by simp;omega)).trans h.t0
 refine h.go hq hT hTB hg hc ⟨rfl,rfl,rfl⟩ hsz far ((t1.set0 _).set1 _) ?_ hok
 obtain⟨S,vm,vl,hr⟩:=ht
 have hne:∀b,FtR v' ts'.length S b->b≠T:=fun b hb=>by have:=(hr.bnd b hb).1;omega
 exact⟨S,vm,vl,(hr.sm ⟨by rw [hsz];exact Nat.le_refl _,fun b hb=>far b (hne b hb)⟩).lowm (by omega),hne⟩
theorem ZnM(q:Nat)(ao:Option Addr)(n cap:Nat)(w:World)(hc:Cur w q ao n cap)(hv:ZW w ao n)(hn:n<=4096):
 Calls Tryz.prog 177 #[.pointer (some ⟨q,0,none⟩)] w fun e w'=>(∃d v ts,e=.returned (.agg #[.int .i64 d,v])/\ZdG (w.heap.size+1) w' v ts/\ZZ d ts=true)/\Cur w' q ao n cap/\w.grownBy w' (some q):=by
 have hq:=hc.lt
 obtain⟨W0,hW0⟩:∃W,w.alloc (.cells #[.int .i64 0,.slice none 0 0] 26)=W:=⟨_,rfl⟩
 have s0:W0.heap.size=w.heap.size+1:=by rw [<-hW0];simp
 have b0:Below w.heap.size w W0:=by rw [<-hW0];exact (Below.refl _ _).alloc (Nat.le_refl _) _
 have HR0:Hid (Two W0 w.heap.size (.int .i64 0) (.slice none 0 0) 26):=by show Two _ _ _ _ _;rw [<-hW0];exact Two.new w _ _ _
 have HB0:=Za b0
 have HNT:=Za (ZeS W0)
 have HW0:=Za hW0
 have HS0:=Za s0
 have HCU:=Za hc
 have HV0:Hid (∀wr,w.grownBy wr (some q)->ZW wr ao n):=fun wr hg=>hv.grown hc hg
 clear s0 b0 hW0 hc hv
 go_enter Tryz.func177,Tryz.ntmps177
 go_upto_region 1 with fail
 rw [HW0.out]
 clear HW0
 go_wp2_with fail
 refine HNT.out.mono ?_
 rintro e W1 ⟨b,rfl,⟨S,vm,vl,ht⟩,L1⟩
 have HT1:=Za ht
 have HL1:=Za L1
 obtain⟨T,hT⟩:∃T,W1.heap.size=T:=⟨_,rfl⟩
 obtain⟨W2,hW2⟩:∃W,W1.alloc (.cells #[.int .i64 1,.slice (some ⟨b,0,none⟩) 4 4] 26)=W:=⟨_,rfl⟩
 have HW2:=Za hW2
 have hT2:Two W2 T (.int .i64 1) (.slice (some ⟨b,0,none⟩) 4 4) 26:=by rw [<-hW2,<-hT];exact Two.new W1 _ _ _
 have b2:Below W1.heap.size W1 W2:=by rw [<-hW2];exact (Below.refl _ _).alloc (Nat.le_refl _) _
 have hTl:w.heap.size<T:=by have:=HS0.out;have:=L1.size;omega
 have g2:w.grownBy W2 (some q):=Zh (Zw HB0.out _) (Zh (Zw L1 _) (Zw b2 _))
 have c2:Cur W2 q ao n cap:=HCU.out.kept14 ((b2.block q (by have:=HS0.out;have:=L1.size;omega)).trans ((L1.block q (by have:=HS0.out;omega)).trans (HB0.out.block q hq)))
 have HBB:=Za (Zgo q ao n cap 1000003 W2 c2 (HV0.out W2 g2) hn (by omega))
 have HT2:=Za hT2
 have hR2:Two W2 w.heap.size (.int .i64 0) (.slice none 0 0) 26:=by
  have h1:Two W1 w.heap.size (.int .i64 0) (.slice none 0 0) 26:=HR0.out.below L1
  exact h1.below b2
 have HR2:=Za hR2
 have HTS2:Hid (TsR false (w.heap.size+1) W2 (.slice (some ⟨b,0,none⟩) 4 4) ZcJ S vm vl/\∀j,FtR (.slice (some ⟨b,0,none⟩) 4 4) ZcJ.length S j->j≠T):=⟨(ht.lowm (base':=w.heap.size+1) (by have:=HS0.out;omega)).next b2,fun j hj=>by have:=(ht.bnd j hj).2;omega⟩
 have HG2:=Za g2
 have HWB:=Za (And.intro hT (show W2.heap.size=W1.heap.size+1 by rw [<-hW2];simp))
 clear ht L1 b2 hW2 hR2 g2 hT2
 try rw [hT]
 go_upto_region 2 with fail
 try rw [hT]
 rw [HW2.out]
 clear HW2 hT
 go_wp2_with fail
 refine HBB.out.mono ?_
 rintro e W3 ⟨⟨y,y0,y1,rfl⟩,c3,g3⟩
 have hT3:Two W3 T (.int .i64 1) (.slice (some ⟨b,0,none⟩) 4 4) 26:=(g3.block T HT2.out.lt (by simp;omega)).trans HT2.out
 obtain⟨W4,hW4⟩:∃W,W3.setCell ⟨T,0,none⟩ (.int .i64 y)=W:=⟨_,rfl⟩
 have hs3:=g3.size
 have hs4:W4.heap.size=W3.heap.size:=by rw [<-hW4,Zb]
 have hBT:T<W2.heap.size:=HT2.out.lt
 have HD4:Hid (∀(wz:World) (g c:Nat) (ds:List Dm),W4.grownBy wz (some q)->Cur wz q ao n cap->ZL W4.heap.size wz g c ds->Zb1 w wz q ao n cap T W4.heap.size g c ds y (.slice (some ⟨b,0,none⟩) 4 4) ZcJ):=fun wz g c ds hg hcz hdr=>by
  have far:∀j,j≠T->W4.heap[j]? =W3.heap[j]? :=fun j hj=>by rw [<-hW4];exact Below.heap_setCell W3 ⟨T,0,none⟩ _ j hj
  have hwg:w.grownBy W4 (some q):=by
   have h3:=Zh HG2.out g3
   exact⟨by rw [<-hW4];exact h3.os,by rw [<-hW4];exact h3.tape,by rw [<-hW4];exact h3.output,by rw [hs4];exact h3.size,fun j hj hjq=>(far j (by omega)).trans (h3.block j hj hjq)⟩
  have ht4:Two W4 T (.int .i64 y) (.slice (some ⟨b,0,none⟩) 4 4) 26:=by rw [<-hW4];exact hT3.set0 _
  refine⟨hcz,Zh hwg hg,?_,(hg.block T (by omega) (by simp;omega)).trans ht4,hdr,⟨S,vm,vl,HTS2.out.1.sm ⟨by have:=hg.size;omega,fun j hj=>?_⟩,HTS2.out.2⟩,ZeQ Zd6 ⟨y0,y1⟩⟩
  · have h2:=HR2.out
    exact (hg.block _ (by have:=h2.lt;omega) (by simp;omega)).trans ((far _ (by omega)).trans ((g3.block _ h2.lt (by simp;omega)).trans h2))
  · have hb:=HTS2.out.1.bnd j hj
    have hj':=HTS2.out.2 j hj
    exact (hg.block j (by omega) (by simp;omega)).trans ((far j hj').trans (g3.block j hb.2 (by simp;omega)))
 have c4:Cur W4 q ao n cap:=c3.kept14 (by rw [<-hW4];exact Below.heap_setCell W3 ⟨T,0,none⟩ _ q (by show q≠T;omega))
 have hwg4:w.grownBy W4 (some q):=by
  have h3:=Zh HG2.out g3
  exact⟨by rw [<-hW4];exact h3.os,by rw [<-hW4];exact h3.tape,by rw [<-hW4];exact h3.output,by rw [hs4];exact h3.size,fun j hj hjq=>by rw [<-hW4];exact (Below.heap_setCell W3 ⟨T,0,none⟩ _ j (by show j≠T;omega)).trans (h3.block j hj hjq)⟩
 have HMD:=Za (Zid q ao n cap 12 W4 c4 (HV0.out W4 hwg4) hn (by omega) (by omega))
 have HG4:=Za hwg4
 have HT4:=Za (And.intro hs4 hs3)
 have k0:=hT3.c0
 have kf:=hT3.frozen 0
 have HW4:=Za hW4
 clear hW4 hT3 g3 c3 c4 hwg4 hs3 hs4 HBB
 go_wp2_with fail
 try rw [HW4.out]
 go_wp2_with fail
 refine HMD.out.mono ?_
 rintro e w1 ⟨⟨g,c,ds,rfl,hnew⟩,c1,g1⟩
 have HD0:=Za (HD4.out w1 g c ds g1 c1 hnew.2.1)
 have hdl:ds.length<=12:=by have:=hnew.1;omega
 have HGD:=Za hnew.2.2
 have hTl0:=hTl
 have hB0:T<W4.heap.size:=by have:=HT4.out.1;have:=HT4.out.2;omega
 obtain⟨B0,hB⟩:∃B,W4.heap.size=B:=⟨_,rfl⟩
 rw [hB] at HD0 hB0
 clear hnew c1 g1 HMD HD4 hB k0 kf HW4 HTS2 HR2 HT2
 go_wp2_with fail
 go_loopw [5] (fun i wr=>∃(k:Nat) (d:Int) (v:Value) (ts:List Wb),k<=ds.length/\i=.int .i64 k/\Zb1 w wr q ao n cap T B0 g c ds d v ts) (fun i _=>ds.length-(intOf i).toNat)
 case atStart=>exact⟨0,_,_,_,Nat.zero_le _,rfl,HD0.out⟩
 case round=>
  obtain⟨k,d,v,ts,hk,rfl,hdw⟩:=hrel
  have hqr:q<wr.heap.size:=by have:=hdw.gr.size;omega
  by_cases hlt:k<ds.length
  · obtain⟨d0,d1⟩:=hdw.dr.cells k hlt
    obtain⟨hrow,hne⟩:=hdw.dr.2.1 _ (Za4 ds k hlt)
    have hgl:=hdw.dr.lt
    have a0:=hdw.t0.c0
    have a1:=hdw.t0.c1
    have hk0:(0:Int)<=(k:Int):=Int.natCast_nonneg _
    have hk1:(k:Int)<(ds.length:Int):=by omega
    have hml:(Zk ds k).2.2.2.length<=1048576:=by
     obtain⟨width,id,hw1,hw3,-,hgd⟩:=HGD.out
     have:=(hgd.1 _ (Za4 ds k hlt)).2.2.1
     omega
    obtain⟨va,vc,rfl,hvw⟩:∃a c,v=.slice a ts.length c/\Zz true wr a ts:=by
     obtain⟨S,vm,vl,hr,-⟩:=hdw.web
     obtain⟨a,c,e,-,h⟩:=hr.form
     exact⟨a,c,e,h⟩
    have hcr:Cur wr q ao n cap:=hdw.cur
    have hTl:=hdw.t0.lt
    have HRG:Hid (Calls Tryz.prog 110 #[.agg #[.int .i64 d,.slice va ts.length vc],.agg #[.int .i64 (Zk ds k).1,.slice (some ⟨(Zk ds k).2.1,0,none⟩) (Zk ds k).2.2.2.length (Zk ds k).2.2.1]] wr.drew fun e w'=>∃d2 a2 l2 c2 ts2 b2,e=.returned (.tuple #[.agg #[.int .i64 d2,.slice a2 l2 c2],.bool b2])/\w'.cell? ⟨T,0,none⟩=some (.int .i64 d)/\w'.cell? ⟨T,1,none⟩=some (.slice va ts.length vc)/\w'.frozen? ⟨T,0,none⟩=false/\w'.frozen? ⟨T,1,none⟩=false/\Zb1 w ((w'.setCell ⟨T,0,none⟩ (.int .i64 d2)).setCell ⟨T,1,none⟩ (.slice a2 l2 c2)) q ao n cap T B0 g c ds d2 (.slice a2 l2 c2) ts2):=by
     refine (ZeT va (some ⟨(Zk ds k).2.1,0,none⟩) vc (Zk ds k).2.2.1 d ts ((Zk ds k).1,(Zk ds k).2.2.2) wr.drew (hvw.next (Below.refl _ _).drew) (show Row B0 wr.drew (Zk ds k).2.1 (Zk ds k).2.2.1 (Zk ds k).2.2.2 from hrow).view hml hdw.ok (Zjf hdw.ok)).mono ?_
     rintro e w' ⟨vt,rfl,hcp,L⟩
     have L':Below wr.heap.size wr w':=⟨L.os,L.tape,L.output,L.size,L.block⟩
     have t1:Two w' T (.int .i64 d) (.slice va ts.length vc) 26:=hdw.t0.below L'
     obtain⟨S,vm,vl,hr⟩:=hcp
     obtain⟨a2,c2,rfl,-,-⟩:=hr.form
     exact⟨_,a2,_,c2,_,_,rfl,t1.c0,t1.c1,t1.frozen 0,t1.frozen 1,hdw.put hq hTl0 hB0 (Zw L' _) (hcr.kept14 (L'.block q hqr)) ⟨S,vm,vl,hr⟩ (Zgp hdw.ok)⟩
    have HDW:=Za hdw
    clear hrow hne hdw hvw hgl hcr
    generalize Zk ds k=dk at *
    go_wp2_with fail
    go_region_with (go_at_call 110;refine HRG.out.mono ?_;rintro e w2 ⟨d2,a2,l2,c2,ts2,b2,rfl,u0,u1,f0,f1,hdz⟩;have HDZ:=Za hdz;clear hdz)
    all_goals (
     simp only [Exit.then]
     have HON:=Za (ZeU q ao n cap 3 _ HDZ.out.cur (HV0.out _ HDZ.out.gr) hn (by omega) (by omega))
     clear a0 a1 d0 d1
     go_wp2_with fail
     refine HON.out.mono ?_
     rintro e w3 ⟨⟨x,rfl⟩,c3,g3⟩
     have HD3:=Za (HDZ.out.stay hq hTl0 hB0 g3 c3)
     clear c3 g3 u0 u1 f0 f1 HON
     cases x with
     | false=>
       go_wp2_with fail
       go_roundw
       case rel=>exact⟨k+1,_,_,_,by omega,by go_num,HD3.out⟩
       case measure=>simp [intOf];omega
     | true=>
       have HB4:=Za (Zgo q ao n cap 1000003 w3 HD3.out.cur (HV0.out _ HD3.out.gr) hn (by omega))
       go_wp2_with fail
       refine HB4.out.mono ?_
       rintro e w4 ⟨⟨y,y0,y1,rfl⟩,c4,g4⟩
       have HD4:=Za (HD3.out.dice hq hTl0 hB0 g4 c4 ⟨y0,y1⟩)
       have HD5:=Za (HD3.out.stay hq hTl0 hB0 g4 c4)
       have u0:=HD5.out.t0.c0
       have f0:=HD5.out.t0.frozen 0
       clear c4 g4
       go_wp2_with fail
       go_roundw
       case rel=>exact⟨k+1,_,_,_,by omega,by go_num,HD4.out⟩
       case measure=>simp [intOf];omega)
  · obtain⟨va,vc,rfl,-⟩:∃a c,v=.slice a ts.length c/\Zz true wr a ts:=by
     obtain⟨S,vm,vl,hr,-⟩:=hdw.web
     obtain⟨a,c,e,-,h⟩:=hr.form
     exact⟨a,c,e,h⟩
    have a0:=hdw.t0.c0
    have a1:=hdw.t0.c1
    have r0:=hdw.r0.c0
    have r1:=hdw.r0.c1
    have f0:=hdw.r0.frozen 0
    have f1:=hdw.r0.frozen 1
    have HDW:=Za hdw
    clear hdw
    go_wp2_with fail
    obtain⟨wy,hwy⟩:∃wy,wy=(wr.setCell ⟨w.heap.size,0,none⟩ (.int .i64 d)).setCell ⟨w.heap.size,1,none⟩ (.slice va ts.length vc):=⟨_,rfl⟩
    rw [<-hwy]
    have t2:Two wy w.heap.size (.int .i64 d) (.slice va ts.length vc) 26:=by rw [hwy];exact (HDW.out.r0.set0 _).set1 _
    have far:∀j,j≠w.heap.size->wy.heap[j]? =wr.heap[j]? :=fun j hj=>by rw [hwy];exact (Below.heap_setCell _ ⟨w.heap.size,1,none⟩ _ j hj).trans (Below.heap_setCell wr ⟨w.heap.size,0,none⟩ _ j hj)
    have hsy:wy.heap.size=wr.heap.size:=by rw [hwy,Zb,Zb]
    have hgr:=HDW.out.gr
    have hce:Cur wy q ao n cap:=HDW.out.cur.kept14 (far q (by omega))
    have hge:w.grownBy wy (some q):=⟨by rw [hwy];exact hgr.os,by rw [hwy];exact hgr.tape,by rw [hwy];exact hgr.output,by rw [hsy];exact hgr.size,fun j hj hjq=>(far j (by omega)).trans (hgr.block j hj hjq)⟩
    have hcy:ZdG (w.heap.size+1) wy (.slice va ts.length vc) ts:=by
     obtain⟨S,vm,vl,hr,-⟩:=HDW.out.web
     exact⟨S,vm,vl,hr.sm ⟨by rw [hsy];exact Nat.le_refl _,fun b hb=>far b (by have:=(hr.bnd b hb).1;omega)⟩⟩
    have HFIN:=Za (And.intro hcy (And.intro HDW.out.ok (And.intro hce hge)))
    have y0:=t2.c0
    have y1:=t2.c1
    clear hwy t2 far hsy hgr hce hge hcy
    refine bodyPost_ret (v:=.agg #[.int .i64 d,.slice va ts.length vc]) (by simp [results,Tryz.results177,go_sem,y0,y1]) rfl ?_
    exact⟨⟨d,_,ts,rfl,HFIN.out.1,HFIN.out.2.1⟩,HFIN.out.2.2.1,HFIN.out.2.2.2⟩
def Zck(ts:List Wb):Prop:=ts.length<=4/\∀n,(Zl ts n).1.length<=60/\(∀i,(mat (Zl ts n).1 i).length<=5)/\(Zl ts n).2.length<=60/\∀i,(cn (Zl ts n).2 i).length<=61
theorem Zck.small{ts:List Wb}(h:Zck ts):ZaB ts:=
 ⟨by have:=h.1;omega,fun n=>⟨⟨by have:=(h.2 n).1;omega,fun i=>by have:=(h.2 n).2.1 i;omega⟩,⟨by have:=(h.2 n).2.2.1;omega,fun i=>by have:=(h.2 n).2.2.2 i;omega⟩⟩⟩
theorem ZjL{ts:List Wb}{i:Nat}(h:ts.length<=i):Zl ts i=([],[]):=by unfold Zl;rw [List.getD_eq_getElem?_getD,List.getElem?_eq_none h];rfl
theorem ZmA:(([],[]):Wb).1.length<=60/\(∀i,(mat (([],[]):Wb).1 i).length<=5)/\(([],[]):Wb).2.length<=60/\∀i,(cn (([],[]):Wb).2 i).length<=61:=⟨by simp,fun i=>by simp [mat],by simp,fun i=>by simp [cn]⟩
theorem ZkW{d:Int}{ts:List Wb}(h:ZZ d ts=true):Zck ts:=by
 refine⟨by have:=(ZaW h).1;omega,fun n=>?_⟩
 rcases Nat.lt_or_ge n 4 with h1 | h1
 · obtain⟨q1,q2,q3,q4⟩:=ZaR (Zcd h h1)
   exact⟨q1,fun i=>by have:=q2 i;omega,q3,fun i=>by have:=q4 i;omega⟩
 · rw [ZjL (by have:=(ZaW h).1;omega)];exact ZmA
theorem Zck.set{ts:List Wb}(h:Zck ts){k:Nat}(hk:k<ts.length){x:Wb}(hx:x.1.length<=60/\(∀i,(mat x.1 i).length<=5)/\x.2.length<=60/\∀i,(cn x.2 i).length<=61):Zck (ts.set k x):=by
 refine⟨by rw [List.length_set];exact h.1,fun n=>?_⟩
 rw [ZdH x hk]
 by_cases e:n=k
 · rw [if_pos e];exact hx
 · rw [if_neg e];exact h.2 n
theorem ZfR(ts:List Wb)(k i:Nat):Zl (ts.drop k) i=Zl ts (k+i):=by simp [Zl,List.getD]
theorem Zck.drop{ts:List Wb}(h:Zck ts)(k:Nat):Zck (ts.drop k):=⟨by rw [List.length_drop];have:=h.1;omega,fun n=>by rw [ZfR];exact h.2 _⟩
theorem Zz.drop1{s:Bool}{w:World}{b off:Nat}{ts:List Wb}(h:Zz s w (some ⟨b,off,none⟩) ts):Zz s w (some ⟨b,off+2,none⟩) (ts.drop 1):=by
 rcases Nat.eq_zero_or_pos ts.length with h0 | h0
 · exact Or.inl (by rw [List.length_eq_zero_iff.1 h0];rfl)
 obtain⟨b',o',e,hb,hs⟩:=h.seg h0
 injection e with e
 injection e with e1 e2
 subst e1
 subst e2
 refine Or.inr ⟨b,off+2,rfl,hb,fun i hi=>?_⟩
 rw [List.length_drop] at hi
 rw [ZfR]
 have:=hs (1+i) (by omega)
 rw [show off+(1+i)*2=off+2+i*2 by omega] at this
 exact this
theorem TsR.put2{o:Bool}{base g c:Nat}{w w':World}{ts:List Wb}{S:Nat->Nat->Prop}{vm vl:Nat->Value}(h:TsR o base w (.slice (some ⟨g,0,none⟩) ts.length c) ts S vm vl)(h':TsR o base w' (.slice (some ⟨g,0,none⟩) ts.length c) ts S vm vl){k:Nat}(hk:k<ts.length){F:Nat->Prop}{xm xl:Value}{t:Wb}(hw:OwW o F w' xm xl t.1 t.2)(hF:∀b,F b->w.heap.size<=b)(hbs:base<=w.heap.size):
 TsR o base ((w'.setCell ⟨g,k*2,none⟩ xm).setCell ⟨g,k*2+1,none⟩ xl) (.slice (some ⟨g,0,none⟩) ts.length c) (ts.set k t) (ZbO S k F) (ZaX vm k xm) (ZaX vl k xl):=by
 have hg:=(h.bnd g (Or.inl rfl)).2
 have far:∀b,b≠g->((w'.setCell ⟨g,k*2,none⟩ xm).setCell ⟨g,k*2+1,none⟩ xl).heap[b]? =w'.heap[b]? :=fun b hb=>(Below.heap_setCell _ ⟨g,k*2+1,none⟩ xl b (fun e=>hb e)).trans (Below.heap_setCell _ ⟨g,k*2,none⟩ xm b (fun e=>hb e))
 have sz:w'.heap.size<=((w'.setCell ⟨g,k*2,none⟩ xm).setCell ⟨g,k*2+1,none⟩ xl).heap.size:=by rw [Zb,Zb];exact Nat.le_refl _
 have hl:(ts.set k t).length=ts.length:=List.length_set ..
 refine⟨?_,fun i hi=>?_,fun i hi q e=>?_,fun i j hi hj hne b=>?_,by rw [hl];exact h.four,fun i b hi hs=>?_⟩
 · have r1:=(World.ownsRow.stored h'.row (k*2) xm).1
   have r2:=(World.ownsRow.stored r1 (k*2+1) xl).1
   rw [Zg1] at r2
   rw [hl]
   exact r2
 · rw [hl] at hi
   rw [ZdH t hk]
   unfold ZbO ZaX
   by_cases e:i=k
   · rw [if_pos e,if_pos e,if_pos e,if_pos e]
     exact hw.sm ⟨sz,fun b hb=>far b (fun eq=>by have:=hF b hb;omega)⟩
   · rw [if_neg e,if_neg e,if_neg e,if_neg e]
     exact (h'.webs i hi).sm ⟨sz,fun b hb=>far b (fun eq=>h.off i hi g rfl (eq ▸ hb))⟩
 · rw [hl] at hi
   injection e with e
   subst e
   unfold ZbO
   by_cases e:i=k
   · rw [if_pos e]
     exact fun hb=>by have hx:w.heap.size<=g:=hF _ hb;omega
   · rw [if_neg e]
     exact h.off i hi _ rfl
 · rw [hl] at hi hj
   unfold ZbO
   by_cases e:i=k
   · rw [if_pos e,if_neg (by omega)]
     exact fun hb hb'=>by have:=hF b hb;have:=(h.webs j hj).bnd b hb';omega
   · rw [if_neg e]
     by_cases e':j=k
     · rw [if_pos e']
       exact fun hb hb'=>by have:=hF b hb';have:=(h.webs i hi).bnd b hb;omega
     · rw [if_neg e']
       exact h.apart i j hi hj hne b
 · rw [hl] at hi
   unfold ZbO at hs
   by_cases e:i=k
   · rw [if_pos e] at hs;have:=hF b hs;omega
   · rw [if_neg e] at hs;exact h.low i b hi hs
theorem WA.ow{base:Nat}{w:World}{am al:Option Addr}{cm cl:Nat}{ms:List Mk}{ls:List (List Int)}(h:WA base w am cm al cl ms ls):OwW false (Btw base w.heap.size) w (.slice am ms.length cm) (.slice al ls.length cl) ms ls:=by
 have hs:=h.small
 refine⟨fun b hb=>hb.2,fun e=>(by cases e),⟨am,cm,al,cl,rfl,rfl,hs.2.2.1,hs.2.2.2.1,fun w' k=>?_⟩⟩
 rcases h with ⟨-,-,-,-,rfl,rfl⟩ | ⟨gm,gl,rfl,rfl,h⟩
 · exact⟨Or.inl rfl,Or.inl rfl⟩
 · obtain⟨rs,h1,rfl⟩:=h.lm
   obtain⟨m1,m2,m3,m4⟩:=h.mh
   have sm:∀b,base<=b->b<w.heap.size->w'.heap[b]? =w.heap[b]? :=fun b h1 h2=>k.2 b ⟨h1,h2⟩
   refine⟨?_,((h1.same (w':=w') (fun b hb=>sm b (h1.all b hb).1 (h1.all b hb).2)).view).cview⟩
   have hm':ZbH base w' gm ms ms.length:=by
    refine⟨m1,Nat.lt_of_lt_of_le m2 k.1,fun i hi=>?_,fun i hi hs=>?_⟩
    · obtain⟨c0,v,c1⟩:=m3 i hi
      exact⟨(World.cell?_of_block (a:=⟨gm,i*2,none⟩) (sm gm m1 m2)).trans c0,v,(World.cell?_of_block (a:=⟨gm,i*2+1,none⟩) (sm gm m1 m2)).trans c1⟩
    · obtain⟨b,cap,c,q1,q2,q3,q4⟩:=m4 i hi hs
      exact⟨b,cap,(World.cell?_of_block (a:=⟨gm,i*2+1,none⟩) (sm gm m1 m2)).trans c,q1,Nat.lt_of_lt_of_le q2 k.1,q3,fun j hj=>(World.cell?_of_block (a:=⟨b,0+j,none⟩) (sm b q1 q2)).trans (q4 j hj)⟩
   exact hm'.view (Nat.le_refl _)
structure TwE(w wr:World)(q:Nat)(ao:Option Addr)(n cap T:Nat)(d:Int)(a:Option Addr)(c:Nat)(ts:List Wb):Prop where
 cur:Cur wr q ao n cap
 gr:w.grownBy wr (some q)
 r0:Two wr w.heap.size (.int .i64 0) (.slice none 0 0) 26
 t0:Two wr T (.int .i64 d) (.slice a ts.length c) 26
 k:Z9 (w.heap.size+1) wr a ts
 cp:ts.length<=c
 bd:Zck ts
theorem Zgq{w wr wy:World}{q:Nat}{ao:Option Addr}{n cap T:Nat}{d:Int}{a:Option Addr}{c:Nat}{ts:List Wb}(h:TwE w wr q ao n cap T d a c ts)(hq:q<w.heap.size)(hwy:wy=(wr.setCell ⟨w.heap.size,0,none⟩ (.int .i64 d)).setCell ⟨w.heap.size,1,none⟩ (.slice a ts.length c)):
 (Z9 (w.heap.size+1) wy a ts/\Cur wy q ao n cap/\w.grownBy wy (some q))/\wy.cell? ⟨w.heap.size,0,none⟩=some (.int .i64 d)/\wy.cell? ⟨w.heap.size,1,none⟩=some (.slice a ts.length c):=by
 have t2:Two wy w.heap.size (.int .i64 d) (.slice a ts.length c) 26:=by rw [hwy];exact (h.r0.set0 _).set1 _
 have far:∀j,j≠w.heap.size->wy.heap[j]? =wr.heap[j]? :=fun j hj=>by rw [hwy];exact (Below.heap_setCell _ ⟨w.heap.size,1,none⟩ _ j hj).trans (Below.heap_setCell wr ⟨w.heap.size,0,none⟩ _ j hj)
 have hsy:wy.heap.size=wr.heap.size:=by rw [hwy,Zb,Zb]
 exact⟨⟨Z9.step h.k (by omega) (fun b hb _=>far b (by omega)),h.cur.kept14 (far q (by omega)),⟨by rw [hwy];exact h.gr.os,by rw [hwy];exact h.gr.tape,by rw [hwy];exact h.gr.output,by rw [hsy];exact h.gr.size,fun j hj hjq=>(far j (by omega)).trans (h.gr.block j hj hjq)⟩⟩,t2.c0,t2.c1⟩
theorem Zie(y:Nat)(h:y<3):∃v,(#[.int .i64 (-1),.int .i64 1000002,.int .i64 1000003]:Array Value)[y]? =some (.int .i64 v):=by
 rcases (show y=0\/y=1\/y=2 by omega) with rfl | rfl | rfl <;> exact⟨_,rfl⟩
structure TwP(w wr:World)(q:Nat)(ao:Option Addr)(n cap T:Nat)(d:Int)(a:Option Addr)(c:Nat)(ts:List Wb):Prop where
 cur:Cur wr q ao n cap
 gr:w.grownBy wr (some q)
 r0:Two wr w.heap.size (.int .i64 0) (.slice none 0 0) 26
 t0:Two wr T (.int .i64 d) (.slice a ts.length c) 26
 web:∃S vm vl,TsR false (w.heap.size+1) wr (.slice a ts.length c) ts S vm vl/\∀b,FtR (.slice a ts.length c) ts.length S b->b≠T
 cp:ts.length<=c
 bd:Zck ts
theorem TwP.fin{w wr:World}{q:Nat}{ao:Option Addr}{n cap T:Nat}{d:Int}{a:Option Addr}{c:Nat}{ts:List Wb}(h:TwP w wr q ao n cap T d a c ts):TwE w wr q ao n cap T d a c ts:=by
 obtain⟨S,vm,vl,hr,-⟩:=h.web
 exact⟨h.cur,h.gr,h.r0,h.t0,hr.kept,h.cp,h.bd⟩
theorem TwP.go{w wr wy wz:World}{q:Nat}{ao:Option Addr}{n cap T:Nat}{d d':Int}{a:Option Addr}{c:Nat}{ts:List Wb}(h:TwP w wr q ao n cap T d a c ts)(hq:q<w.heap.size)(hT:w.heap.size<T)(hg:wr.grownBy wy (some q))(hc:Cur wy q ao n cap)
 (hm:wz.os=wy.os/\wz.tape=wy.tape/\wz.output=wy.output) (hs:wz.heap.size=wy.heap.size) (far:∀b,b≠T->wz.heap[b]? =wy.heap[b]?) (ht:Two wz T (.int .i64 d') (.slice a ts.length c) 26):TwP w wz q ao n cap T d' a c ts:=by
 have hws:=h.gr.size
 have hgz:=Zh h.gr hg
 have hold:∀b,b<wr.heap.size->b≠q->b≠T->wz.heap[b]? =wr.heap[b]? :=fun b h1 h2 h3=>(far b h3).trans (hg.block b h1 (by simp;exact h2))
 obtain⟨S,vm,vl,hr,hn⟩:=h.web
 exact⟨hc.kept14 (far q (by omega)),⟨hm.1.trans hgz.os,hm.2.1.trans hgz.tape,hm.2.2.trans hgz.output,by rw [hs];exact hgz.size,fun b hb hbq=>(far b (by omega)).trans (hgz.block b hb hbq)⟩,(hold _ h.r0.lt (by omega) (by omega)).trans h.r0,ht,⟨S,vm,vl,hr.sm ⟨by rw [hs];exact hg.size,fun b hb=>hold b (hr.bnd b hb).2 (by have:=(hr.bnd b hb).1;omega) (hn b hb)⟩,hn⟩,h.cp,h.bd⟩
theorem TwP.stay{w wr wy:World}{q:Nat}{ao:Option Addr}{n cap T:Nat}{d:Int}{a:Option Addr}{c:Nat}{ts:List Wb}(h:TwP w wr q ao n cap T d a c ts)(hq:q<w.heap.size)(hT:w.heap.size<T)(hg:wr.grownBy wy (some q))(hc:Cur wy q ao n cap):TwP w wy q ao n cap T d a c ts:=
 h.go hq hT hg hc ⟨rfl,rfl,rfl⟩ rfl (fun _ _=>rfl) ((hg.block T h.t0.lt (by simp;omega)).trans h.t0)
theorem TwP.dice{w wr wy:World}{q:Nat}{ao:Option Addr}{n cap T:Nat}{d:Int}{a:Option Addr}{c:Nat}{ts:List Wb}(h:TwP w wr q ao n cap T d a c ts)(hq:q<w.heap.size)(hT:w.heap.size<T)(hg:wr.grownBy wy (some q))(hc:Cur wy q ao n cap)(y:Int):TwP w (wy.setCell ⟨T,0,none⟩ (.int .i64 y)) q ao n cap T y a c ts:=
 h.go hq hT hg hc ⟨rfl,rfl,rfl⟩ (Zb ..) (fun b hb=>Below.heap_setCell wy ⟨T,0,none⟩ _ b hb) ((show Two wy T (.int .i64 d) (.slice a ts.length c) 26 from (hg.block T h.t0.lt (by simp;omega)).trans h.t0).set0 _)
theorem TwP.web1{w wr wy:World}{q g:Nat}{ao:Option Addr}{n cap T:Nat}{d:Int}{c:Nat}{ts:List Wb}{am al:Option Addr}{cm cl:Nat}{ms:List Mk}{ls:List (List Int)}(h:TwP w wr q ao n cap T d (some ⟨g,0,none⟩) c ts)(hq:q<w.heap.size)(hT:w.heap.size<T)(hg:wr.grownBy wy (some q))(hc:Cur wy q ao n cap)(hk:1<ts.length)(hwa:WA wr.heap.size wy am cm al cl ms ls):
 TwE w ((wy.setCell ⟨g,2,none⟩ (.slice am ms.length cm)).setCell ⟨g,3,none⟩ (.slice al ls.length cl)) q ao n cap T d (some ⟨g,0,none⟩) c (ts.set 1 (ms,ls)):=by
 have h2:=h.stay hq hT hg hc
 have hws:=h.gr.size
 obtain⟨S,vm,vl,hr,hn⟩:=h.web
 have hgT:=hn g (Or.inl rfl)
 have hgb:=hr.bnd g (Or.inl rfl)
 have hr2:TsR false (w.heap.size+1) wy (.slice (some ⟨g,0,none⟩) ts.length c) ts S vm vl:=hr.sm ⟨hg.size,fun b hb=>hg.block b (hr.bnd b hb).2 (by have:=(hr.bnd b hb).1;simp;omega)⟩
 have hp:=hr.put2 hr2 hk (t:=(ms,ls)) (F:=Btw wr.heap.size wy.heap.size) hwa.ow (fun b hb=>hb.1) (by omega)
 have hsm:=hwa.small
 have far:∀b,b≠g->((wy.setCell ⟨g,2,none⟩ (.slice am ms.length cm)).setCell ⟨g,3,none⟩ (.slice al ls.length cl)).heap[b]? =wy.heap[b]? :=fun b hb=>(Below.heap_setCell _ ⟨g,3,none⟩ _ b hb).trans (Below.heap_setCell wy ⟨g,2,none⟩ _ b hb)
 have hsz:((wy.setCell ⟨g,2,none⟩ (.slice am ms.length cm)).setCell ⟨g,3,none⟩ (.slice al ls.length cl)).heap.size=wy.heap.size:=by rw [Zb,Zb]
 have hl:(ts.set 1 (ms,ls)).length=ts.length:=List.length_set ..
 refine⟨h2.cur.kept14 (far q (by omega)),⟨h2.gr.os,h2.gr.tape,h2.gr.output,by rw [hsz];exact h2.gr.size,fun b hb hbq=>(far b (by omega)).trans (h2.gr.block b hb hbq)⟩,(far _ (by omega)).trans h2.r0,?_,?_,by rw [hl];exact h.cp,h.bd.set hk ⟨by have:=hsm.2.2.2.2.1;show ms.length<=60;omega,hsm.2.2.2.2.2.2.1,by have:=hsm.2.2.2.2.2.1;show ls.length<=60;omega,hsm.2.2.2.2.2.2.2⟩⟩
 · rw [hl];exact (far T (by omega)).trans h2.t0
 · exact hp.kept
theorem TwP.tail{w wr:World}{q g:Nat}{ao:Option Addr}{n cap T:Nat}{d:Int}{c:Nat}{ts:List Wb}(h:TwP w wr q ao n cap T d (some ⟨g,0,none⟩) c ts)(hq:q<w.heap.size)(hT:w.heap.size<T)(h1:1<=ts.length):
 TwE w (wr.setCell ⟨T,1,none⟩ (.slice (some ⟨g,2,none⟩) (ts.length-1) (c-1))) q ao n cap T d (some ⟨g,2,none⟩) (c-1) (ts.drop 1):=by
 have hws:=h.gr.size
 obtain⟨S,vm,vl,hr,hn⟩:=h.web
 have far:∀b,b≠T->(wr.setCell ⟨T,1,none⟩ (.slice (some ⟨g,2,none⟩) (ts.length-1) (c-1))).heap[b]? =wr.heap[b]? :=fun b hb=>Below.heap_setCell wr ⟨T,1,none⟩ _ b hb
 have hsz:(wr.setCell ⟨T,1,none⟩ (.slice (some ⟨g,2,none⟩) (ts.length-1) (c-1))).heap.size=wr.heap.size:=Zb ..
 have hl:(ts.drop 1).length=ts.length-1:=List.length_drop
 have hcp:=h.cp
 refine⟨h.cur.kept14 (far q (by omega)),⟨h.gr.os,h.gr.tape,h.gr.output,by rw [hsz];exact h.gr.size,fun b hb hbq=>(far b (by omega)).trans (h.gr.block b hb hbq)⟩,(far _ (by omega)).trans h.r0,?_,fun w' hs hb=>?_,by rw [hl];omega,h.bd.drop 1⟩
 · rw [hl];exact h.t0.set1 _
 · have hv:=hr.sm (w':=w') ⟨by omega,fun b hbf=>(hb b (hr.bnd b hbf).1 (by have:=(hr.bnd b hbf).2;omega)).trans (far b (hn b hbf))⟩
   obtain⟨a',c',e,-,hv⟩:=hv.form
   injection e with e1 e2 e3
   subst e1
   have:=hv.drop1
   rw [Nat.zero_add] at this
   exact this
theorem ZjM(q:Nat)(ao:Option Addr)(n cap:Nat)(w:World)(hc:Cur w q ao n cap)(hv:ZW w ao n)(hn:n<=4096):
 Calls Tryz.prog 96 #[.pointer (some ⟨q,0,none⟩)] w fun e w'=>(∃d a c ts,e=.returned (.agg #[.int .i64 d,.slice a ts.length c])/\Z9 (w.heap.size+1) w' a ts/\ts.length<=c/\Zck ts)/\Cur w' q ao n cap/\w.grownBy w' (some q):=by
 have hq:=hc.lt
 obtain⟨W0,hW0⟩:∃W,w.alloc (.cells #[.int .i64 0,.slice none 0 0] 26)=W:=⟨_,rfl⟩
 have s0:W0.heap.size=w.heap.size+1:=by rw [<-hW0];simp
 have b0:Below w.heap.size w W0:=by rw [<-hW0];exact (Below.refl _ _).alloc (Nat.le_refl _) _
 have HR0:Hid (Two W0 w.heap.size (.int .i64 0) (.slice none 0 0) 26):=by show Two _ _ _ _ _;rw [<-hW0];exact Two.new w _ _ _
 have g0:w.grownBy W0 (some q):=Zw b0 _
 have c0:Cur W0 q ao n cap:=hc.kept14 (b0.block q hq)
 have HV0:Hid (∀wr,w.grownBy wr (some q)->ZW wr ao n):=fun wr hg=>hv.grown hc hg
 have HCT:=Za (ZnM q ao n cap W0 c0 (HV0.out W0 g0) hn)
 have HW0:=Za hW0
 have HS0:=Za s0
 have HG0:=Za g0
 clear s0 b0 hW0 hc hv g0 c0
 go_enter Tryz.func96,Tryz.ntmps96
 go_upto_region 1 with fail
 rw [HW0.out]
 clear HW0
 go_wp2_with fail
 refine HCT.out.mono ?_
 rintro e W1 ⟨⟨d,v,ts,rfl,⟨S,vm,vl,ht⟩,hok⟩,c1,g1⟩
 obtain⟨g,c,rfl,hg1,hg2,hcc,hce⟩:=ht.nonil (by have:=(ZaW hok).1;omega)
 obtain⟨T,hT⟩:∃T,W1.heap.size=T:=⟨_,rfl⟩
 obtain⟨W2,hW2⟩:∃W,W1.alloc (.cells #[.int .i64 d,.slice (some ⟨g,0,none⟩) ts.length c] 26)=W:=⟨_,rfl⟩
 have b2:Below W1.heap.size W1 W2:=by rw [<-hW2];exact (Below.refl _ _).alloc (Nat.le_refl _) _
 have hT2:Two W2 T (.int .i64 d) (.slice (some ⟨g,0,none⟩) ts.length c) 26:=by rw [<-hW2,<-hT];exact Two.new W1 _ _ _
 have hTl:w.heap.size<T:=by have:=HS0.out;have:=g1.size;omega
 have hs0:=HS0.out
 have HP2:Hid (TwP w W2 q ao n cap T d (some ⟨g,0,none⟩) c ts):=by
  refine⟨c1.kept14 (b2.block q (by have:=g1.size;omega)),Zh HG0.out (Zh g1 (Zw b2 _)),?_,hT2,⟨S,vm,vl,(ht.lowm (by omega)).next b2,fun b hb=>by have:=(ht.bnd b hb).2;omega⟩,hcc,ZkW hok⟩
  have h1:Two W1 w.heap.size (.int .i64 0) (.slice none 0 0) 26:=(g1.block _ HR0.out.lt (by simp;omega)).trans HR0.out
  exact h1.below b2
 have H4:=Za (ZaW hok).1
 have HW2:=Za hW2
 have HON:=Za (ZeU q ao n cap 12 W2 HP2.out.cur (HV0.out W2 HP2.out.gr) hn (by omega) (by omega))
 clear ht c1 g1 b2 hT2 hW2 hok hg1 hg2 hce HCT HG0 HR0 HS0 hs0 S vm vl
 try rw [hT]
 go_upto_region 2 with fail
 try rw [hT]
 rw [HW2.out]
 clear HW2 hT
 go_wp2_with fail
 refine HON.out.mono ?_
 rintro e w3 ⟨⟨x,rfl⟩,c3,g3⟩
 have HP3:=Za (HP2.out.stay hq hTl g3 c3)
 clear HON HP2 c3 g3
 cases x with
 | false=>
   have a0:=HP3.out.t0.c0
   have a1:=HP3.out.t0.c1
   have r0:=HP3.out.r0.c0
   have r1:=HP3.out.r0.c1
   have f0:=HP3.out.r0.frozen 0
   have f1:=HP3.out.r0.frozen 1
   go_wp2_with fail
   obtain⟨wy,hwy⟩:∃wy,wy=(w3.setCell ⟨w.heap.size,0,none⟩ (.int .i64 d)).setCell ⟨w.heap.size,1,none⟩ (.slice (some ⟨g,0,none⟩) ts.length c):=⟨_,rfl⟩
   rw [<-hwy]
   obtain⟨hf,y0,y1⟩:=Zgq HP3.out.fin hq hwy
   have HFIN:=Za hf
   have HBD:=Za (And.intro HP3.out.cp HP3.out.bd)
   clear hwy hf
   refine bodyPost_ret (v:=.agg #[.int .i64 d,.slice (some ⟨g,0,none⟩) ts.length c]) (by simp [results,Tryz.results96,go_sem,y0,y1]) rfl ?_
   exact⟨⟨d,_,c,ts,rfl,HFIN.out.1,HBD.out⟩,HFIN.out.2⟩
 | true=>
   have HBE:=Za (ZaV q ao n cap 3 w3 HP3.out.cur (HV0.out _ HP3.out.gr) hn (by omega) (by omega))
   go_wp2_with fail
   refine HBE.out.mono ?_
   rintro e w4 ⟨⟨y,y0,y1,rfl⟩,c4,g4⟩
   have HP4:=Za (HP3.out.stay hq hTl g4 c4)
   clear HBE HP3 c4 g4
   rcases (show y=0\/y=1\/y=2 by omega) with rfl | rfl | rfl
   · have ga:=World.grownBy_alloc w4 (.cells #[.int .i64 (-1),.int .i64 1000002,.int .i64 1000003] 2) (some q)
     have HP5:=Za (HP4.out.stay hq hTl ga (HP4.out.cur.alloc _))
     have HB5:=Za (ZaV q ao n cap 3 _ HP5.out.cur (HV0.out _ HP5.out.gr) hn (by omega) (by omega))
     have hs5:w.heap.size<w4.heap.size:=HP4.out.r0.lt
     clear ga
     go_wp2_with fail
     refine HB5.out.mono ?_
     rintro e w6 ⟨⟨z,z0,z1,rfl⟩,c6,g6⟩
     obtain⟨yn,rfl⟩:=Int.eq_ofNat_of_zero_le z0
     obtain⟨v,hv3⟩:=Zie yn (by omega)
     have ht:w6.cell? ⟨w4.heap.size,yn,none⟩=some (.int .i64 v):=g6.cell (by rw [World.cell?_alloc_at _ _ _ _ rfl];exact hv3) (by simp;omega)
     have hy2:(yn:Int)<3:=by omega
     have HP6:=Za (HP5.out.stay hq hTl g6 c6)
     have HP7:=Za (HP5.out.dice hq hTl g6 c6 v)
     have u0:=HP6.out.t0.c0
     have uf:=HP6.out.t0.frozen 0
     have a0:=HP7.out.t0.c0
     have a1:=HP7.out.t0.c1
     have r0:=HP7.out.r0.c0
     have r1:=HP7.out.r0.c1
     have f0:=HP7.out.r0.frozen 0
     have f1:=HP7.out.r0.frozen 1
     clear g6 c6 HB5 HP5 HP6 HP4
     go_wp2_with fail
     obtain⟨wy,hwy⟩:∃wy,wy=((w6.setCell ⟨T,0,none⟩ (.int .i64 v)).setCell ⟨w.heap.size,0,none⟩ (.int .i64 v)).setCell ⟨w.heap.size,1,none⟩ (.slice (some ⟨g,0,none⟩) ts.length c):=⟨_,rfl⟩
     rw [<-hwy]
     obtain⟨hf,y0,y1⟩:=Zgq HP7.out.fin hq hwy
     have HFIN:=Za hf
     have HBD:=Za (And.intro HP7.out.cp HP7.out.bd)
     clear hwy hf u0 uf a0 a1 r0 r1 f0 f1 ht
     refine bodyPost_ret (v:=.agg #[.int .i64 v,.slice (some ⟨g,0,none⟩) ts.length c]) (by simp [results,Tryz.results96,go_sem,y0,y1]) rfl ?_
     exact⟨⟨v,_,c,ts,rfl,HFIN.out.1,HBD.out⟩,HFIN.out.2⟩
   · have h4:=H4.out
     have hk:(1:Int)<(ts.length:Int):=by omega
     have a0:=HP4.out.t0.c0
     have a1:=HP4.out.t0.c1
     have HWA:Hid (Calls Tryz.prog 178 #[.pointer (some ⟨q,0,none⟩)] w4.drew fun e w'=>∃am cm al cl ms ls,e=.returned (.agg #[.slice am ms.length cm,.slice al ls.length cl])/\w'.cell? ⟨T,1,none⟩=some (.slice (some ⟨g,0,none⟩) ts.length c)/\(∃u v,w'.cell? ⟨g,2,none⟩=some u/\w'.cell? ⟨g,3,none⟩=some v/\u.oneCell'=true/\v.oneCell'=true)/\(∀j,w'.frozen? ⟨g,j,none⟩=false)/\TwE w ((w'.setCell ⟨g,2,none⟩ (.slice am ms.length cm)).setCell ⟨g,3,none⟩ (.slice al ls.length cl)) q ao n cap T d (some ⟨g,0,none⟩) c (ts.set 1 (ms,ls))):=by
      have gd:w4.grownBy w4.drew (some q):=⟨rfl,rfl,rfl,Nat.le_refl _,fun _ _ _=>rfl⟩
      have hp4:=HP4.out
      refine (ZmB q ao n cap w4.drew hp4.cur.drew (HV0.out _ (Zh hp4.gr gd)) hn).mono ?_
      rintro e w' ⟨⟨am,cm,al,cl,ms,ls,rfl,hwa⟩,c5,g5⟩
      have g45:=Zh gd g5
      have hp5:=hp4.stay hq hTl g45 c5
      refine⟨am,cm,al,cl,ms,ls,rfl,hp5.t0.c1,?_,?_,hp4.web1 hq hTl g45 c5 (by omega) hwa⟩
      · obtain⟨S,vm,vl,hr,-⟩:=hp5.web
        obtain⟨g',c',e',-,-,-,hcl⟩:=hr.nonil (by omega)
        injection e' with e1 e2 e3
        injection e1 with e1
        injection e1 with e1
        subst e1
        obtain⟨x0,x1,-⟩:=hcl 1 (by omega)
        obtain⟨am',cm',al',cl',e1,e2,-⟩:=(hr.webs 1 (by omega)).view
        rw [e1] at x0
        rw [e2] at x1
        exact⟨_,_,x0,x1,rfl,rfl⟩
      · obtain⟨S,vm,vl,hr,-⟩:=hp5.web
        obtain⟨g',c',e',-,-,-,hcl⟩:=hr.nonil (by omega)
        injection e' with e1 e2 e3
        injection e1 with e1
        injection e1 with e1
        subst e1
        exact (hcl 1 (by omega)).2.2
     clear h4
     go_wp2_with fail
     go_region_with (go_at_call 178;refine HWA.out.mono ?_;rintro e w5 ⟨am,cm,al,cl,ms,ls,rfl,u1,⟨uu,vv,x0,x1,x2,x3⟩,uf,hte⟩;have xf2:=uf 2;have xf3:=uf 3;have HTE:=Za hte;clear hte uf)
     all_goals (
      try simp only [Exit.then]
      have b0:=HTE.out.t0.c0
      have b1:=HTE.out.t0.c1
      have r0:=HTE.out.r0.c0
      have r1:=HTE.out.r0.c1
      have f0:=HTE.out.r0.frozen 0
      have f1:=HTE.out.r0.frozen 1
      rw [List.length_set] at b1
      clear a0 a1 u1
      go_wp2_with fail
      obtain⟨wy,hwy⟩:∃wy,wy=(((w5.setCell ⟨g,2,none⟩ (.slice am ms.length cm)).setCell ⟨g,3,none⟩ (.slice al ls.length cl)).setCell ⟨w.heap.size,0,none⟩ (.int .i64 d)).setCell ⟨w.heap.size,1,none⟩ (.slice (some ⟨g,0,none⟩) ts.length c):=⟨_,rfl⟩
      rw [<-hwy]
      have hl:ts.length=(ts.set 1 (ms,ls)).length:=by rw [List.length_set]
      rw [hl] at hwy
      obtain⟨hf,y0,y1⟩:=Zgq HTE.out hq hwy
      have HFIN:=Za hf
      have HBD:=Za (And.intro HTE.out.cp HTE.out.bd)
      rw [<-hl] at y1
      clear hwy hf b0 b1 r0 r1 f0 f1
      refine bodyPost_ret (v:=.agg #[.int .i64 d,.slice (some ⟨g,0,none⟩) ts.length c]) (by simp [results,Tryz.results96,go_sem,y0,y1]) rfl ?_
      exact⟨⟨d,_,c,ts.set 1 (ms,ls),by rw [hl],HFIN.out.1,HBD.out⟩,HFIN.out.2⟩)
   · have h4:=H4.out
     have a0:=HP4.out.t0.c0
     have a1:=HP4.out.t0.c1
     have af:=HP4.out.t0.frozen 1
     have hcp:=HP4.out.cp
     have HTE:=Za (HP4.out.tail hq hTl (by omega))
     have h41:1<=ts.length:=by omega
     have h42:1<c:=by omega
     have h43:1<=c:=by omega
     have h44:c≠1:=by omega
     have hl:ts.length-1=(ts.drop 1).length:=by rw [List.length_drop]
     have r0:=HTE.out.r0.c0
     have r1:=HTE.out.r0.c1
     have f0:=HTE.out.r0.frozen 0
     have f1:=HTE.out.r0.frozen 1
     have b0:=HTE.out.t0.c0
     have b1:=HTE.out.t0.c1
     rw [<-hl] at b1
     have HL:=Za hl
     clear h4 hcp hl
     go_wp2_with fail
     obtain⟨wy,hwy⟩:∃wy,wy=((w4.setCell ⟨T,1,none⟩ (.slice (some ⟨g,2,none⟩) (ts.length-1) (c-1))).setCell ⟨w.heap.size,0,none⟩ (.int .i64 d)).setCell ⟨w.heap.size,1,none⟩ (.slice (some ⟨g,2,none⟩) (ts.length-1) (c-1)):=⟨_,rfl⟩
     rw [<-hwy]
     have hwy2:=hwy
     rw [show Value.slice (some ⟨g,2,none⟩) (ts.length-1) (c-1)=.slice (some ⟨g,2,none⟩) (ts.drop 1).length (c-1) by rw [HL.out]] at hwy2
     have hte:=HTE.out
     rw [show Value.slice (some ⟨g,2,none⟩) (ts.length-1) (c-1)=.slice (some ⟨g,2,none⟩) (ts.drop 1).length (c-1) by rw [HL.out]] at hte
     obtain⟨hf,y0,y1⟩:=Zgq hte hq hwy2
     have HFIN:=Za hf
     have HBD:=Za (And.intro hte.cp hte.bd)
     rw [<-HL.out] at y1
     clear hwy hwy2 hf hte b0 b1 r0 r1 f0 f1 a0 a1 af
     refine bodyPost_ret (v:=.agg #[.int .i64 d,.slice (some ⟨g,2,none⟩) (ts.length-1) (c-1)]) (by simp [results,Tryz.results96,go_sem,y0,y1]) rfl ?_
     exact⟨⟨d,_,c-1,ts.drop 1,by rw [HL.out],HFIN.out.1,HBD.out⟩,HFIN.out.2⟩
theorem Zce(f:Nat->Nat)(c:Nat):∀n,(∀i,i<n->f i<=c)->tot f n<=n*c
 | 0,_=>by simp [tot]
 | n+1,h=>by
   have h1:=Zce f c n (fun i hi=>h i (by omega))
   have h2:=h n (by omega)
   have h3:(n+1)*c=n*c+c:=Nat.succ_mul n c
   simp only [tot]
   omega
theorem ZdI{ms:List Mk}{a b:Nat}(h1:ms.length<=a)(h2:∀i,(mat ms i).length<=b):Zg2 ms<=a+a*b:=by
 have h:=Zce (fun j=>(mat ms j).length) b ms.length (fun i _=>h2 i)
 have h3:=Nat.mul_le_mul_right b h1
 unfold Zg2
 omega
theorem Zgr{ls:List (List Int)}{a b:Nat}(h1:ls.length<=a)(h2:∀i,(cn ls i).length<=b):Zif ls<=a+a*b:=by
 have h:=Zce (fun j=>(cn ls j).length) b ls.length (fun i _=>h2 i)
 have h3:=Nat.mul_le_mul_right b h1
 unfold Zif
 omega
def Zgs(ms:List Mk):Prop:=ms.length<=60/\∀i,(mat ms i).length<=5
theorem ZkX{ms:List Mk}{ts:List Wb}(h:Zgs ms)(ht:Zck ts):Z5 ms ts:=by
 refine⟨⟨by have:=h.1;omega,fun i=>by have:=h.2 i;omega⟩,ht.small,?_⟩
 have h1:=ZdI h.1 h.2
 have h2:ZkY ts<=4+4*5000:=by
  have h:=Zce (fun j=>wtot (Zl ts j)) 5000 ts.length (fun i _=>by
   obtain⟨w1,w2,w3,w4⟩:=ht.2 i
   have a1:=ZdI w1 w2
   have a2:=Zgr w3 w4
   show Zg2 _+Zif _<=5000
   omega)
  have h3:=Nat.mul_le_mul_right 5000 ht.1
  unfold ZkY
  omega
 omega
theorem ZnC{ds:List Dm}(h1:ds.length<=60)(h2:∀x∈ds,x.2.2.2.length<=4):Zgs (Zj ds):=by
 refine⟨by rw [Zp];exact h1,fun i=>?_⟩
 rcases Nat.lt_or_ge i ds.length with hi | hi
 · have e:mat (Zj ds) i=(Zk ds i).2.2.2:=by
    have:=ZaS ds i hi
    rw [<-ZkZ,this]
   rw [e]
   have:=h2 _ (Za4 ds i hi)
   omega
 · have e:mat (Zj ds) i=[]:=by simp [mat,List.getD,List.getElem?_eq_none (show (Zj ds).length<=i by rw [Zp];exact hi)]
   rw [e];simp
theorem ZnN(wd:Int)(w:World)(h:inR wd 1 4=true):
 Calls Tryz.prog 42 #[.int .i64 wd] w fun e w'=>∃b,e=.returned (.tuple #[.agg #[.int .i64 wd,.slice none 0 0,.int .i64 1,.slice (some ⟨b,0,none⟩) 4 4,.int .i64 1],.bool true])/\Z9 (w.heap.size+1) w' (some ⟨b,0,none⟩) ZcJ/\Below w.heap.size w w':=by
 obtain⟨W,hW⟩:∃W,w.alloc (.cells #[.int .i64 0,.slice none 0 0,.int .i64 0,.slice none 0 0,.int .i64 0] 52)=W:=⟨_,rfl⟩
 have hB:Below w.heap.size w W:=by rw [<-hW];exact (Below.refl _ _).alloc (Nat.le_refl _) _
 have hs:W.heap.size=w.heap.size+1:=by rw [<-hW];simp
 have t1:W.heap[w.heap.size]? =some (.cells #[.int .i64 0,.slice none 0 0,.int .i64 0,.slice none 0 0,.int .i64 0] 52):=by rw [<-hW];exact heap_alloc_new w _
 have HB:=Za hB
 have HT:=Za t1
 have HIN:=Za (sIn wd 1 4)
 rw [h] at HIN
 have HN:=Za (ZeS W)
 have HS:=Za hs
 clear hB t1 h hs
 go_enter Tryz.func42,Tryz.ntmps42
 go_wp2_with fail
 refine (HIN.out _).mono ?_
 rintro e w1 ⟨rfl,hw1⟩
 have hw2:=hw1.symm
 subst hw2
 go_wp2_with fail
 refine HN.out.mono ?_
 rintro e w2 ⟨b,rfl,⟨S,vm,vl,n2⟩,L2⟩
 obtain⟨e0,e1,e2,e3,e4,f2,hlt⟩:=Ze ((L2.block _ (Ze HT.out).2.2.2.2.2.2).trans HT.out)
 have f20:=f2 0
 have f21:=f2 1
 have f22:=f2 2
 have f23:=f2 3
 have f24:=f2 4
 obtain⟨a',c',ea,-,hv⟩:=n2.form
 have hk:Z9 W.heap.size w2 (some ⟨b,0,none⟩) ZcJ:=n2.kept
 have HF:=Za (And.intro hk (Zd HB.out L2))
 clear n2 L2 hW f2 HT HN HB hk ea hv
 go_wp2_with fail
 refine bodyPost_ret (v:=.tuple #[.agg #[.int .i64 wd,.slice none 0 0,.int .i64 1,.slice (some ⟨b,0,none⟩) 4 4,.int .i64 1],.bool true]) (by simp [results,Tryz.results42,go_sem,e0,e1,e2,e3,e4]) rfl ?_
 obtain⟨q1,q2⟩:=HF.out
 refine⟨b,rfl,?_,((((q2.setCell (Nat.le_refl _) _).setCell (Nat.le_refl _) _).setCell (Nat.le_refl _) _).setCell (Nat.le_refl _) _).setCell (Nat.le_refl _) _⟩
 have hs:=HS.out
 rw [hs] at q1
 refine Z9.step q1 (by simp only [Zb];exact Nat.le_refl _) (fun j hj _=>Zbw (by omega))
structure Zcl(w wr:World)(q:Nat)(ao:Option Addr)(n cap D:Nat)(wd d nx:Int)(ag:Option Addr)(c:Nat)(og:Option Nat)(ds:List Dm)(va:Option Addr)(vc:Nat)(ts:List Wb):Prop where
 cur:Cur wr q ao n cap
 gr:w.grownBy wr (some q)
 r0:wr.heap[w.heap.size]? =some (.cells #[.int .i64 0,.slice none 0 0,.int .i64 0,.slice none 0 0,.int .i64 0] 52)
 box:wr.heap[D]? =some (.cells #[.int .i64 wd,.slice ag ds.length c,.int .i64 d,.slice va ts.length vc,.int .i64 nx] 52)
 dr:DRV (w.heap.size+1) wr ag c og ds
 off:∀x∈ds,x.2.1≠D
 kt:∀w':World,wr.heap.size<=w'.heap.size->(∀b,w.heap.size+1<=b->b<wr.heap.size->b≠D->w'.heap[b]? =wr.heap[b]?)->Zz true w' va ts
 ok:ZZ d ts=true
 at4:∀x∈ds,x.2.2.2.length<=4
 wd2:1<=wd/\wd<=4
theorem Zcl.lt{w wr:World}{q:Nat}{ao:Option Addr}{n cap D:Nat}{wd d nx:Int}{ag:Option Addr}{c:Nat}{og:Option Nat}{ds:List Dm}{va:Option Addr}{vc:Nat}{ts:List Wb}(h:Zcl w wr q ao n cap D wd d nx ag c og ds va vc ts):D<wr.heap.size/\w.heap.size<wr.heap.size:=⟨(Ze h.box).2.2.2.2.2.2,(Ze h.r0).2.2.2.2.2.2⟩
theorem Zcl.view{w wr:World}{q:Nat}{ao:Option Addr}{n cap D:Nat}{wd d nx:Int}{ag:Option Addr}{c:Nat}{og:Option Nat}{ds:List Dm}{va:Option Addr}{vc:Nat}{ts:List Wb}(h:Zcl w wr q ao n cap D wd d nx ag c og ds va vc ts):Zz true wr va ts:=h.kt wr (Nat.le_refl _) (fun _ _ _ _=>rfl)
theorem Zcl.go{w wr wy wz:World}{q:Nat}{ao:Option Addr}{n cap D:Nat}{wd d nx d':Int}{ag:Option Addr}{c:Nat}{og:Option Nat}{ds:List Dm}{va:Option Addr}{vc:Nat}{ts:List Wb}(h:Zcl w wr q ao n cap D wd d nx ag c og ds va vc ts)(hq:q<w.heap.size)(hD:w.heap.size<D)(hg:wr.grownBy wy (some q))(hc:Cur wy q ao n cap)
 (hm:wz.os=wy.os/\wz.tape=wy.tape/\wz.output=wy.output) (hs:wz.heap.size=wy.heap.size) (far:∀b,b≠D->wz.heap[b]? =wy.heap[b]?) (hb:wz.heap[D]? =some (.cells #[.int .i64 wd,.slice ag ds.length c,.int .i64 d',.slice va ts.length vc,.int .i64 nx] 52)) (hok:ZZ d' ts=true):
 Zcl w wz q ao n cap D wd d' nx ag c og ds va vc ts:=by
 have hws:=h.gr.size
 have hys:=hg.size
 have hgz:=Zh h.gr hg
 have hold:∀b,b<wr.heap.size->b≠q->b≠D->wz.heap[b]? =wr.heap[b]? :=fun b h1 h2 h3=>(far b h3).trans (hg.block b h1 (by simp;exact h2))
 exact⟨hc.kept14 (far q (by omega)),⟨hm.1.trans hgz.os,hm.2.1.trans hgz.tape,hm.2.2.trans hgz.output,by rw [hs];exact hgz.size,fun b hb hbq=>(far b (by omega)).trans (hgz.block b hb hbq)⟩,(hold _ h.lt.2 (by omega) (by omega)).trans h.r0,hb,Zjh (D:=D) h.dr (fun b h1 h2 h3=>hold b h2 (by omega) h3) (h.dr.noD h.box (by decide)) h.off,h.off,fun w' h1 h2=>h.kt w' (by omega) (fun b h3 h4 h5=>(h2 b h3 (by omega) h5).trans (hold b h4 (by omega) h5)),hok,h.at4,h.wd2⟩
theorem Zcl.stay{w wr wy:World}{q:Nat}{ao:Option Addr}{n cap D:Nat}{wd d nx:Int}{ag:Option Addr}{c:Nat}{og:Option Nat}{ds:List Dm}{va:Option Addr}{vc:Nat}{ts:List Wb}(h:Zcl w wr q ao n cap D wd d nx ag c og ds va vc ts)(hq:q<w.heap.size)(hD:w.heap.size<D)(hg:wr.grownBy wy (some q))(hc:Cur wy q ao n cap):Zcl w wy q ao n cap D wd d nx ag c og ds va vc ts:=
 h.go hq hD hg hc ⟨rfl,rfl,rfl⟩ rfl (fun _ _=>rfl) ((hg.block D h.lt.1 (by simp;omega)).trans h.box) h.ok
theorem ZnO{wd nx d:Int}{p:List Int}{ts:List Wb}(h:kpB wd nx d p ts=true):p.length<=4/\Zb2 (nx,p) ts d=true:=by
 unfold kpB at h
 simp only [Bool.and_eq_true] at h
 exact⟨(Zat h.1.1.1).2,h.2⟩
theorem Zcl.kept{w wr w':World}{q:Nat}{ao:Option Addr}{n cap D:Nat}{wd d nx:Int}{ag:Option Addr}{c:Nat}{og:Option Nat}{ds:List Dm}{va:Option Addr}{vc:Nat}{ts:List Wb}{p:List Int}{e:Ending}(h:Zcl w wr q ao n cap D wd d nx ag c og ds va vc ts)(hq:q<w.heap.size)(hD:w.heap.size<D)
 (hk:(kpB wd nx d p ts=false->e=.returned (.int .i64 (-1))/\Below wr.heap.size wr w')/\(kpB wd nx d p ts=true->e=.returned (.int .i64 nx)/\∃g c2 va vc,w'.heap[D]? =some (.cells #[.int .i64 wd,.slice (some ⟨g,0,none⟩) (ds.length+1) c2,.int .i64 (Zcg (nx,p) ts d),.slice va (ZaI (nx,p) ts d).length vc,.int .i64 (nx+1)] 52)/\(∃gp' cq',ZL (w.heap.size+1) w' g c2 (ds++[(nx,gp',cq',p)])/\(∀x∈ds++[(nx,gp',cq',p)],x.2.1≠D))/\Z9 wr.heap.size w' va (ZaI (nx,p) ts d)/\Cgd (fun b=>b=D\/og=some b) wr w')):
 ∃x nx' d' ag' c' og' ds' va' vc' ts',e=.returned (.int .i64 x)/\Zcl w w' q ao n cap D wd d' nx' ag' c' og' ds' va' vc' ts'/\nx<=nx'/\nx'<=nx+1/\ds'.length<=ds.length+1:=by
 rcases hkb:kpB wd nx d p ts with _ | _
 · obtain⟨rfl,L⟩:=hk.1 hkb
   exact⟨_,nx,d,ag,c,og,ds,va,vc,ts,rfl,h.stay hq hD (Zw L _) (h.cur.kept14 (L.block q (by have:=h.gr.size;omega))),by omega,by omega,by omega⟩
 · obtain⟨rfl,g,c2,va2,vc2,hbox,⟨gp,cq,hdr,hoff⟩,hkt,C⟩:=hk.2 hkb
   obtain⟨hp4,-⟩:=ZnO hkb
   have hsz:=C.2.2.2.1
   have hws:=h.gr.size
   have hqw:¬(q=D\/og=some q):=fun e=>by
    rcases e with e | e
    · omega
    · have:=h.dr.ge q e;omega
   have hq':=C.2.2.2.2 q (by omega) hqw
   have hlow:∀b,b<=w.heap.size->w'.heap[b]? =wr.heap[b]? :=fun b hb=>C.2.2.2.2 b (by have:=h.lt;omega) (fun e=>by
    rcases e with e | e
    · omega
    · have:=h.dr.ge b e;omega)
   refine⟨nx,nx+1,_,some ⟨g,0,none⟩,c2,some g,ds++[(nx,gp,cq,p)],va2,vc2,_,rfl,⟨h.cur.kept14 hq',⟨C.1.trans h.gr.os,C.2.1.trans h.gr.tape,C.2.2.1.trans h.gr.output,by omega,fun b hb hbq=>(hlow b (by omega)).trans (h.gr.block b hb hbq)⟩,(hlow _ (Nat.le_refl _)).trans h.r0,?_,hdr.drv,hoff,fun w2 h1 h2=>hkt w2 h1 (fun b h3 h4=>h2 b (by have:=h.lt;omega) h4 (by have:=h.lt;omega)),Zgp h.ok,fun x hx=>?_,h.wd2⟩,by omega,by omega,by simp⟩
   · rw [List.length_append,List.length_singleton];exact hbox
   · rcases List.mem_append.1 hx with hx | hx
     · exact h.at4 x hx
     · rw [List.mem_singleton.1 hx];exact hp4
theorem Zcl.gone{w wr w':World}{q:Nat}{ao:Option Addr}{n cap D:Nat}{wd d nx id:Int}{ag:Option Addr}{c:Nat}{og:Option Nat}{ds:List Dm}{va:Option Addr}{vc:Nat}{ts:List Wb}{e:Ending}(h:Zcl w wr q ao n cap D wd d nx ag c og ds va vc ts)(hq:q<w.heap.size)(hD:w.heap.size<D)
 (hk:(Zv (Zj ds) id<0->e=.returned (.bool false)/\w'=wr)/\(0<=Zv (Zj ds) id->e=.returned (.bool true)/\∃g c2,w'.heap[D]? =some (.cells #[.int .i64 wd,.slice (some ⟨g,0,none⟩) (ds.take (Zy (Zj ds) id)++ds.drop (Zy (Zj ds) id+1)).length c2,.int .i64 d,.slice va ts.length vc,.int .i64 nx] 52)/\(ds.take (Zy (Zj ds) id)++ds.drop (Zy (Zj ds) id+1)).length<=c2/\ZL (w.heap.size+1) w' g c2 (ds.take (Zy (Zj ds) id)++ds.drop (Zy (Zj ds) id+1))/\Cgd (fun b=>b=D) wr w')):
 ∃b ag' c' og' ds',e=.returned (.bool b)/\Zcl w w' q ao n cap D wd d nx ag' c' og' ds' va vc ts/\ds'.length<=ds.length:=by
 rcases Int.lt_or_le (Zv (Zj ds) id) 0 with hz | hz
 · obtain⟨rfl,rfl⟩:=hk.1 hz
   exact⟨_,ag,c,og,ds,rfl,h,Nat.le_refl _⟩
 · obtain⟨rfl,g,c2,hbox,hc2,hdr,C⟩:=hk.2 hz
   have hsub:=Zgt ds (Zy (Zj ds) id)
   have hsz:=C.2.2.2.1
   have hws:=h.gr.size
   have hold:∀b,b<wr.heap.size->b≠D->w'.heap[b]? =wr.heap[b]? :=fun b h1 h2=>C.2.2.2.2 b h1 h2
   exact⟨true,some ⟨g,0,none⟩,c2,some g,_,rfl,⟨h.cur.kept14 (hold q (by omega) (by omega)),⟨C.1.trans h.gr.os,C.2.1.trans h.gr.tape,C.2.2.1.trans h.gr.output,by omega,fun b hb hbq=>(hold b (by omega) (by omega)).trans (h.gr.block b hb hbq)⟩,(hold _ h.lt.2 (by omega)).trans h.r0,hbox,hdr.drv,fun x hx=>h.off x (hsub.subset hx),fun w2 h1 h2=>h.kt w2 (by omega) (fun b h3 h4 h5=>(h2 b h3 (by omega) h5).trans (hold b h4 h5)),h.ok,fun x hx=>h.at4 x (hsub.subset hx),h.wd2⟩,hsub.length_le⟩
theorem ZnP(q:Nat)(ao:Option Addr)(n cap:Nat)(w:World)(hc:Cur w q ao n cap)(hv:ZW w ao n)(hn:n<=4096):
 Calls Tryz.prog 209 #[.pointer (some ⟨q,0,none⟩)] w fun e w'=>(∃wd d nx ag c og ds va vc ts,e=.returned (.agg #[.int .i64 wd,.slice ag ds.length c,.int .i64 d,.slice va ts.length vc,.int .i64 nx])/\DRV (w.heap.size+1) w' ag c og ds/\Z9 (w.heap.size+1) w' va ts/\Zck ts/\Zgs (Zj ds)/\1<=wd/\wd<=4)/\Cur w' q ao n cap/\w.grownBy w' (some q):=by
 have hq:=hc.lt
 obtain⟨W0,hW0⟩:∃W,w.alloc (.cells #[.int .i64 0,.slice none 0 0,.int .i64 0,.slice none 0 0,.int .i64 0] 52)=W:=⟨_,rfl⟩
 have s0:W0.heap.size=w.heap.size+1:=by rw [<-hW0];simp
 have b0:Below w.heap.size w W0:=by rw [<-hW0];exact (Below.refl _ _).alloc (Nat.le_refl _) _
 have r0:W0.heap[w.heap.size]? =some (.cells #[.int .i64 0,.slice none 0 0,.int .i64 0,.slice none 0 0,.int .i64 0] 52):=by rw [<-hW0];exact heap_alloc_new w _
 have g0:w.grownBy W0 (some q):=Zw b0 _
 have c0:Cur W0 q ao n cap:=hc.kept14 (b0.block q hq)
 have HV0:Hid (∀wr,w.grownBy wr (some q)->ZW wr ao n):=fun wr hg=>hv.grown hc hg
 have HB2:=Za (ZaV q ao n cap 2 W0 c0 (HV0.out W0 g0) hn (by omega) (by omega))
 have HW0:=Za hW0
 have HR0:=Za r0
 have HG0:=Za (And.intro s0 g0)
 clear s0 b0 hW0 hc hv g0 c0 r0
 go_enter Tryz.func209,Tryz.ntmps209
 go_upto_region 1 with fail
 rw [HW0.out]
 clear HW0
 go_wp2_with fail
 refine HB2.out.mono ?_
 rintro e w1 ⟨⟨y,y0,y1,rfl⟩,c1,g1⟩
 have hadd:IntKind.i64.wrap (1+y)=1+y:=by rw [IntWalk.i64_in _ ⟨by omega,by omega⟩]
 obtain⟨wd,hwd⟩:∃x,1+y=x:=⟨_,rfl⟩
 have hwd1:1<=wd/\wd<=4:=by omega
 rw [hwd] at hadd
 have HNS:=Za (ZnN wd w1 (by simp [inR];omega))
 have hs1:=g1.size
 have HG1:=Za (And.intro c1 g1)
 clear c1 g1 HB2 y0 y1
 go_wp2_with fail
 first | rw [hwd] | skip
 clear hwd
 refine HNS.out.mono ?_
 rintro e w2 ⟨b,rfl,hk2,L2⟩
 obtain⟨D,hD⟩:∃D,w2.heap.size=D:=⟨_,rfl⟩
 obtain⟨w3,hw3⟩:∃W,w2.alloc (.cells #[.int .i64 wd,.slice none 0 0,.int .i64 1,.slice (some ⟨b,0,none⟩) 4 4,.int .i64 1] 52)=W:=⟨_,rfl⟩
 have b3:Below w2.heap.size w2 w3:=by rw [<-hw3];exact (Below.refl _ _).alloc (Nat.le_refl _) _
 have hbx:w3.heap[D]? =some (.cells #[.int .i64 wd,.slice none 0 0,.int .i64 1,.slice (some ⟨b,0,none⟩) 4 4,.int .i64 1] 52):=by rw [<-hw3,<-hD];exact heap_alloc_new w2 _
 have hDl:w.heap.size<D:=by have:=HG0.out.1;have:=L2.size;omega
 have HP3:Hid (Zcl w w3 q ao n cap D wd 1 1 none 0 none [] (some ⟨b,0,none⟩) 4 ZcJ):=by
  have h0:=HG0.out.1
  have hq1:=HG1.out.1.lt
  have hL2:=L2.size
  have hs3:=b3.size
  refine⟨HG1.out.1.kept14 ((b3.block q (by omega)).trans (L2.block q (by omega))),Zh HG0.out.2 (Zh HG1.out.2 (Zh (Zw L2 _) (Zw b3 _))),?_,hbx,DRV.nil _ _,fun x hx=>(by cases hx),fun w' h1 h2=>hk2 w' (by omega) (fun j h3 h4=>(h2 j (by omega) (by omega) (by omega)).trans (b3.block j h4)),Zd6,fun x hx=>(by cases hx),hwd1⟩
  exact (b3.block _ (by omega)).trans ((L2.block _ (by omega)).trans ((HG1.out.2.block _ (by omega) (by simp;omega)).trans HR0.out))
 have HB3:=Za (Zgo q ao n cap 1000003 w3 HP3.out.cur (HV0.out w3 HP3.out.gr) hn (by omega))
 have HW3:=Za hw3
 have HDD:=Za hD
 clear hw3 hD b3 hbx hk2 L2 HG1 HR0 HNS hs1
 go_upto_region 2 with fail
 rw [HW3.out]
 try rw [HDD.out]
 clear HW3 HDD
 go_wp2_with fail
 refine HB3.out.mono ?_
 rintro e w4 ⟨⟨z,z0,z1,rfl⟩,c4,g4⟩
 have HP4:=Za (HP3.out.stay hq hDl g4 c4)
 obtain⟨w5,hw5⟩:∃W,w4.setCell ⟨D,2,none⟩ (.int .i64 z)=W:=⟨_,rfl⟩
 have HP5:Hid (Zcl w w5 q ao n cap D wd z 1 none 0 none [] (some ⟨b,0,none⟩) 4 ZcJ):=by
  show Zcl _ _ _ _ _ _ _ _ _ _ _ _ _ _ _ _ _
  rw [<-hw5]
  exact HP4.out.go hq hDl (ZI _ _) HP4.out.cur ⟨rfl,rfl,rfl⟩ (Zb ..) (fun j hj=>Below.heap_setCell w4 ⟨D,2,none⟩ _ j hj) (heap_setCell_same w4 D 2 _ _ _ HP4.out.box) (ZeQ Zd6 ⟨z0,z1⟩)
 obtain⟨-,-,u2,-,-,uf,-⟩:=Ze HP4.out.box
 have uf2:=uf 2
 have HB5:=Za (ZaV q ao n cap 10 w5 HP5.out.cur (HV0.out w5 HP5.out.gr) hn (by omega) (by omega))
 have HW5:=Za hw5
 clear hw5 c4 g4 HB3 HP3 uf
 go_upto_region 3 with fail
 first | rw [HW5.out] | skip
 clear HW5 u2 uf2 HP4
 go_wp2_with fail
 refine HB5.out.mono ?_
 rintro e w6 ⟨⟨k0,k00,k01,rfl⟩,c6,g6⟩
 obtain⟨kn,rfl⟩:=Int.eq_ofNat_of_zero_le k00
 have HP6:=Za (HP5.out.stay hq hDl g6 c6)
 clear c6 g6 HB5 HP5
 go_wp2_with fail
 go_loopw [5] (fun i wr=>∃(k:Nat) (d nx:Int) (ag:Option Addr) (c:Nat) (og:Option Nat) (ds:List Dm) (va:Option Addr) (vc:Nat) (ts:List Wb),k<=9/\i=.int .i64 k/\1<=nx/\nx+k<=12/\ds.length+k<=12/\Zcl w wr q ao n cap D wd d nx ag c og ds va vc ts) (fun i _=>(intOf i).toNat)
 case atStart=>exact⟨kn,_,_,_,_,_,_,_,_,_,by omega,rfl,by omega,by omega,by simp;omega,HP6.out⟩
 case round=>
  obtain⟨k,d,nx,ag,c,og,ds,va,vc,ts,hk,rfl,hn1,hn2,hl,hst⟩:=hrel
  have HST:=Za hst
  have HBD:=Za (And.intro hn1 (And.intro hn2 hl))
  clear hst hn1 hn2 hl
  by_cases hk0:k=0
  · subst hk0
    obtain⟨b0,b1,b2,b3,b4,-,-⟩:=Ze HST.out.box
    obtain⟨f0,f1,f2,f3,f4,ff,-⟩:=Ze HST.out.r0
    have ff0:=ff 0
    have ff1:=ff 1
    have ff2:=ff 2
    have ff3:=ff 3
    have ff4:=ff 4
    clear ff
    go_wp2_with fail
    obtain⟨wy,hwy⟩:∃wy,wy=((((wr.setCell ⟨w.heap.size,0,none⟩ (.int .i64 wd)).setCell ⟨w.heap.size,1,none⟩ (.slice ag ds.length c)).setCell ⟨w.heap.size,2,none⟩ (.int .i64 d)).setCell ⟨w.heap.size,3,none⟩ (.slice va ts.length vc)).setCell ⟨w.heap.size,4,none⟩ (.int .i64 nx):=⟨_,rfl⟩
    rw [<-hwy]
    have hy:wy.heap[w.heap.size]? =some (.cells #[.int .i64 wd,.slice ag ds.length c,.int .i64 d,.slice va ts.length vc,.int .i64 nx] 52):=by rw [hwy];exact ZbW HST.out.r0
    have far:∀j,j≠w.heap.size->wy.heap[j]? =wr.heap[j]? :=fun j hj=>by rw [hwy];exact Zbw hj
    have hsy:wy.heap.size=wr.heap.size:=by rw [hwy];simp only [Zb]
    have hgr:=HST.out.gr
    have HFIN:Hid (DRV (w.heap.size+1) wy ag c og ds/\Z9 (w.heap.size+1) wy va ts/\Cur wy q ao n cap/\w.grownBy wy (some q)):=by
     refine⟨ZdJ HST.out.dr (fun j h1 _=>far j (by omega)),fun w' h1 h2=>HST.out.kt w' (by omega) (fun j h3 h4 h5=>(h2 j h3 (by omega)).trans (far j (by omega))),HST.out.cur.kept14 (far q (by omega)),⟨by rw [hwy];exact hgr.os,by rw [hwy];exact hgr.tape,by rw [hwy];exact hgr.output,by rw [hsy];exact hgr.size,fun j hj hjq=>(far j (by omega)).trans (hgr.block j hj hjq)⟩⟩
    obtain⟨y0,y1,y2,y3,y4,-,-⟩:=Ze hy
    clear hwy hy far hsy hgr b0 b1 b2 b3 b4 f0 f1 f2 f3 f4 ff0 ff1 ff2 ff3 ff4
    refine bodyPost_ret (v:=.agg #[.int .i64 wd,.slice ag ds.length c,.int .i64 d,.slice va ts.length vc,.int .i64 nx]) (by simp [results,Tryz.results209,go_sem,y0,y1,y2,y3,y4]) rfl ?_
    exact⟨⟨wd,d,nx,ag,c,og,ds,va,vc,ts,rfl,HFIN.out.1,HFIN.out.2.1,ZkW HST.out.ok,ZnC (by have:=HBD.out.2.2;omega) HST.out.at4,HST.out.wd2⟩,HFIN.out.2.2⟩
  · have hgt:((k:Int) > 0):=by omega
    have HON:=Za (ZeU q ao n cap 4 wr HST.out.cur (HV0.out wr HST.out.gr) hn (by omega) (by omega))
    have hwr1:IntKind.i64.wrap ((k:Int)-1)=(k:Int)-1:=IntWalk.i64_in _ ⟨by omega,by omega⟩
    go_wp2_with fail
    refine HON.out.mono ?_
    rintro e w7 ⟨⟨x,rfl⟩,c7,g7⟩
    have HS7:=Za (HST.out.stay hq hDl g7 c7)
    clear c7 g7 HON HST
    cases x with
    | true=>
      have HBE:=Za (ZaV q ao n cap 8 w7 HS7.out.cur (HV0.out w7 HS7.out.gr) hn (by omega) (by omega))
      go_wp2_with fail
      refine HBE.out.mono ?_
      rintro e w8 ⟨⟨id,id0,id1,rfl⟩,c8,g8⟩
      have HS8:=Za (HS7.out.stay hq hDl g8 c8)
      have hid:IntKind.i64.wrap (1+id)=1+id:=by rw [IntWalk.i64_in _ ⟨by omega,by omega⟩]
      have hs8:=HS8.out
      have HGO:=Za (ZnQ (w.heap.size+1) D c ag og ds wd d nx (1+id) (.slice va ts.length vc) w8 hs8.box hs8.dr (by have:=HBD.out.2.2;omega) hs8.off)
      clear c8 g8 HBE HS7 hs8
      go_wp2_with fail
      refine HGO.out.mono ?_
      intro e w9 hgo
      obtain⟨bb,ag',c',og',ds',rfl,hs9,hl9⟩:=HS8.out.gone hq hDl hgo
      have HS9:=Za hs9
      have HL9:=Za hl9
      clear hs9 hl9 hgo HGO
      go_wp2_with fail
      go_roundw
      case rel=>exact⟨k-1,d,nx,ag',c',og',ds',va,vc,ts,by omega,by go_num,by have:=HBD.out.1;omega,by have:=HBD.out.2.1;omega,by have:=HL9.out;have:=HBD.out.2.2;omega,HS9.out⟩
      case measure=>simp [intOf];omega
    | false=>
      obtain⟨wn,hwn⟩:=Int.eq_ofNat_of_zero_le (show 0<=wd by omega)
      have HPO:=Za (Zk0 q ao n cap wn w7 HS7.out.cur (HV0.out w7 HS7.out.gr) hn (by omega))
      rw [<-hwn] at HPO
      obtain⟨b0,-,-,-,-,-,-⟩:=Ze HS7.out.box
      have HWN:=Za hwn
      clear hwn
      go_wp2_with fail
      refine HPO.out.mono ?_
      rintro e w8 ⟨⟨gp,cp,xs,rfl,hxl,hrow⟩,c8,g8⟩
      have HS8:=Za (HS7.out.stay hq hDl g8 c8)
      have hs8:=HS8.out
      have hxl5:xs.length<=1048576:=by have:=HWN.out;omega
      have HKE:=Za (ZnR (w.heap.size+1) D c ag og ds wd d nx va vc ts (some ⟨gp,0,none⟩) cp xs w8 hs8.box hs8.dr (by have:=hs8.lt;omega) hs8.view hrow.view hxl5 hs8.ok (Zjf hs8.ok) (by have:=HBD.out.2.2;omega) hs8.off (by have:=HBD.out.1;have:=HBD.out.2.1;omega))
      clear c8 g8 hrow HPO HS7 hs8 b0 hxl hxl5
      go_wp2_with fail
      refine HKE.out.mono ?_
      intro e w9 hke
      obtain⟨x,nx',d',ag',c',og',ds',va',vc',ts',rfl,hs9,h1,h2,h3⟩:=HS8.out.kept hq hDl hke
      have HS9:=Za hs9
      have HL9:=Za (And.intro h1 (And.intro h2 h3))
      clear hs9 h1 h2 h3 hke HKE
      go_wp2_with fail
      go_roundw
      case rel=>exact⟨k-1,d',nx',ag',c',og',ds',va',vc',ts',by omega,by go_num,by have:=HBD.out.1;have:=HL9.out.1;omega,by have:=HBD.out.2.1;have:=HL9.out.2.1;omega,by have:=HL9.out.2.2;have:=HBD.out.2.2;omega,HS9.out⟩
      case measure=>simp [intOf];omega
def Zg3(base:Nat)(w:World)(ag:Option Addr)(ms:List Mk)(va:Option Addr)(ts:List Wb):Prop:=∀w':World,w.heap.size<=w'.heap.size->(∀b,base<=b->b<w.heap.size->w'.heap[b]? =w.heap[b]?)->Zq w' ag ms/\Zz true w' va ts
structure StP(w wr:World)(q:Nat)(ao:Option Addr)(n cap D:Nat)(wd d nx:Int)(ag:Option Addr)(cm:Nat)(ms:List Mk)(va:Option Addr)(vc:Nat)(ts:List Wb):Prop where
 cur:Cur wr q ao n cap
 gr:w.grownBy wr (some q)
 r0:wr.heap[w.heap.size]? =some (.cells #[.int .i64 0,.slice none 0 0,.int .i64 0,.slice none 0 0,.int .i64 0] 52)
 box:wr.heap[D]? =some (.cells #[.int .i64 wd,.slice ag ms.length cm,.int .i64 d,.slice va ts.length vc,.int .i64 nx] 52)
 kp:∀w':World,wr.heap.size<=w'.heap.size->(∀b,w.heap.size+1<=b->b<wr.heap.size->b≠D->w'.heap[b]? =wr.heap[b]?)->Zq w' ag ms/\Zz true w' va ts
 cp:ms.length<=cm
 mb:Zgs ms
 tb:Zck ts
theorem StP.lt{w wr:World}{q:Nat}{ao:Option Addr}{n cap D:Nat}{wd d nx:Int}{ag:Option Addr}{cm:Nat}{ms:List Mk}{va:Option Addr}{vc:Nat}{ts:List Wb}(h:StP w wr q ao n cap D wd d nx ag cm ms va vc ts):D<wr.heap.size/\w.heap.size<wr.heap.size:=⟨(Ze h.box).2.2.2.2.2.2,(Ze h.r0).2.2.2.2.2.2⟩
theorem StP.put{w wr wy wz:World}{q:Nat}{ao:Option Addr}{n cap D:Nat}{wd d nx wd' d' nx':Int}{ag ag':Option Addr}{cm cm':Nat}{ms ms':List Mk}{va va':Option Addr}{vc vc':Nat}{ts ts':List Wb}(h:StP w wr q ao n cap D wd d nx ag cm ms va vc ts)(hq:q<w.heap.size)(hD:w.heap.size<D)(hg:wr.grownBy wy (some q))(hc:Cur wy q ao n cap)
 (hm:wz.os=wy.os/\wz.tape=wy.tape/\wz.output=wy.output) (hs:wz.heap.size=wy.heap.size) (far:∀b,b≠D->wz.heap[b]? =wy.heap[b]?) (hb:wz.heap[D]? =some (.cells #[.int .i64 wd',.slice ag' ms'.length cm',.int .i64 d',.slice va' ts'.length vc',.int .i64 nx'] 52))
 (hk:∀w':World,wz.heap.size<=w'.heap.size->(∀b,w.heap.size+1<=b->b<wz.heap.size->b≠D->w'.heap[b]? =wz.heap[b]?)->Zq w' ag' ms'/\Zz true w' va' ts') (hcp:ms'.length<=cm') (hmb:Zgs ms') (htb:Zck ts'):
 StP w wz q ao n cap D wd' d' nx' ag' cm' ms' va' vc' ts':=by
 have hws:=h.gr.size
 have hgz:=Zh h.gr hg
 have hold:∀b,b<wr.heap.size->b≠q->b≠D->wz.heap[b]? =wr.heap[b]? :=fun b h1 h2 h3=>(far b h3).trans (hg.block b h1 (by simp;exact h2))
 exact⟨hc.kept14 (far q (by omega)),⟨hm.1.trans hgz.os,hm.2.1.trans hgz.tape,hm.2.2.trans hgz.output,by rw [hs];exact hgz.size,fun b hb hbq=>(far b (by omega)).trans (hgz.block b hb hbq)⟩,(hold _ h.lt.2 (by omega) (by omega)).trans h.r0,hb,hk,hcp,hmb,htb⟩
theorem StP.rows{w wr wy wz:World}{q:Nat}{ao:Option Addr}{n cap D:Nat}{wd d nx:Int}{ag:Option Addr}{cm:Nat}{ms:List Mk}{va:Option Addr}{vc:Nat}{ts:List Wb}(h:StP w wr q ao n cap D wd d nx ag cm ms va vc ts)(hq:q<w.heap.size)(hg:wr.grownBy wy (some q))(hs:wz.heap.size=wy.heap.size)(far:∀b,b≠D->wz.heap[b]? =wy.heap[b]?):
 ∀w':World,wz.heap.size<=w'.heap.size->(∀b,w.heap.size+1<=b->b<wz.heap.size->b≠D->w'.heap[b]? =wz.heap[b]?)->Zq w' ag ms/\Zz true w' va ts:=fun w' h1 h2=>h.kp w' (by have:=hg.size;omega) (fun b h3 h4 h5=>(h2 b h3 (by have:=hg.size;omega) h5).trans ((far b h5).trans (hg.block b h4 (by simp;omega))))
theorem StP.stay{w wr wy:World}{q:Nat}{ao:Option Addr}{n cap D:Nat}{wd d nx:Int}{ag:Option Addr}{cm:Nat}{ms:List Mk}{va:Option Addr}{vc:Nat}{ts:List Wb}(h:StP w wr q ao n cap D wd d nx ag cm ms va vc ts)(hq:q<w.heap.size)(hD:w.heap.size<D)(hg:wr.grownBy wy (some q))(hc:Cur wy q ao n cap):StP w wy q ao n cap D wd d nx ag cm ms va vc ts:=
 h.put hq hD hg hc ⟨rfl,rfl,rfl⟩ rfl (fun _ _=>rfl) ((hg.block D h.lt.1 (by simp;omega)).trans h.box) (h.rows hq hg rfl (fun _ _=>rfl)) h.cp h.mb h.tb
theorem StP.fin{w wr wy:World}{q:Nat}{ao:Option Addr}{n cap D:Nat}{wd d nx:Int}{ag:Option Addr}{cm:Nat}{ms:List Mk}{va:Option Addr}{vc:Nat}{ts:List Wb}(h:StP w wr q ao n cap D wd d nx ag cm ms va vc ts)(hq:q<w.heap.size)
 (hwy:wy=((((wr.setCell ⟨w.heap.size,0,none⟩ (.int .i64 wd)).setCell ⟨w.heap.size,1,none⟩ (.slice ag ms.length cm)).setCell ⟨w.heap.size,2,none⟩ (.int .i64 d)).setCell ⟨w.heap.size,3,none⟩ (.slice va ts.length vc)).setCell ⟨w.heap.size,4,none⟩ (.int .i64 nx)):
 (Zg3 (w.heap.size+1) wy ag ms va ts/\Cur wy q ao n cap/\w.grownBy wy (some q))/\wy.heap[w.heap.size]? =some (.cells #[.int .i64 wd,.slice ag ms.length cm,.int .i64 d,.slice va ts.length vc,.int .i64 nx] 52):=by
 have far:∀j,j≠w.heap.size->wy.heap[j]? =wr.heap[j]? :=fun j hj=>by rw [hwy];exact Zbw hj
 have hsy:wy.heap.size=wr.heap.size:=by rw [hwy];simp only [Zb]
 have hgr:=h.gr
 exact⟨⟨fun w' h1 h2=>h.kp w' (by omega) (fun j h3 h4 h5=>(h2 j h3 (by omega)).trans (far j (by omega))),h.cur.kept14 (far q (by omega)),⟨by rw [hwy];exact hgr.os,by rw [hwy];exact hgr.tape,by rw [hwy];exact hgr.output,by rw [hsy];exact hgr.size,fun j hj hjq=>(far j (by omega)).trans (hgr.block j hj hjq)⟩⟩,by rw [hwy];exact ZbW h.r0⟩
theorem ZjN(y:Nat)(h:y<4):∃v,(#[.int .i64 0,.int .i64 1,.int .i64 1000000,.int .i64 1000001]:Array Value)[y]? =some (.int .i64 v):=by
 rcases (show y=0\/y=1\/y=2\/y=3 by omega) with rfl | rfl | rfl | rfl <;> exact⟨_,rfl⟩
theorem ZfS(q:Nat)(ao:Option Addr)(n cap:Nat)(w:World)(hc:Cur w q ao n cap)(hv:ZW w ao n)(hn:n<=4096):
 Calls Tryz.prog 125 #[.pointer (some ⟨q,0,none⟩)] w fun e w'=>(∃wd d nx ag cm ms va vc ts,e=.returned (.agg #[.int .i64 wd,.slice ag ms.length cm,.int .i64 d,.slice va ts.length vc,.int .i64 nx])/\Zg3 (w.heap.size+1) w' ag ms va ts/\ms.length<=cm/\Zgs ms/\Zck ts)/\Cur w' q ao n cap/\w.grownBy w' (some q):=by
 have hq:=hc.lt
 obtain⟨W0,hW0⟩:∃W,w.alloc (.cells #[.int .i64 0,.slice none 0 0,.int .i64 0,.slice none 0 0,.int .i64 0] 52)=W:=⟨_,rfl⟩
 have s0:W0.heap.size=w.heap.size+1:=by rw [<-hW0];simp
 have b0:Below w.heap.size w W0:=by rw [<-hW0];exact (Below.refl _ _).alloc (Nat.le_refl _) _
 have r0:W0.heap[w.heap.size]? =some (.cells #[.int .i64 0,.slice none 0 0,.int .i64 0,.slice none 0 0,.int .i64 0] 52):=by rw [<-hW0];exact heap_alloc_new w _
 have g0:w.grownBy W0 (some q):=Zw b0 _
 have c0:Cur W0 q ao n cap:=hc.kept14 (b0.block q hq)
 have HV0:Hid (∀wr,w.grownBy wr (some q)->ZW wr ao n):=fun wr hg=>hv.grown hc hg
 have HCS:=Za (ZnP q ao n cap W0 c0 (HV0.out W0 g0) hn)
 have HW0:=Za hW0
 have HR0:=Za r0
 have HG0:=Za (And.intro s0 g0)
 clear s0 b0 hW0 hc hv g0 c0 r0
 go_enter Tryz.func125,Tryz.ntmps125
 go_upto_region 1 with fail
 rw [HW0.out]
 clear HW0
 go_wp2_with fail
 refine HCS.out.mono ?_
 rintro e w1 ⟨⟨wd,d,nx,ag,c,og,ds,va,vc,ts,rfl,hdr,hkt,htb,hmb,-,-⟩,c1,g1⟩
 obtain⟨D,hD⟩:∃D,w1.heap.size=D:=⟨_,rfl⟩
 have hcap:=hdr.cap
 obtain⟨ms,hms,hml⟩:∃ms,Zj ds=ms/\ds.length=ms.length:=⟨_,rfl,(Zp ds).symm⟩
 rw [hms] at hmb
 have HMS:=Za hms
 have HML:=Za hml
 obtain⟨w2,hw2⟩:∃W,w1.alloc (.cells #[.int .i64 wd,.slice ag ms.length c,.int .i64 d,.slice va ts.length vc,.int .i64 nx] 52)=W:=⟨_,rfl⟩
 have b2:Below w1.heap.size w1 w2:=by rw [<-hw2];exact (Below.refl _ _).alloc (Nat.le_refl _) _
 have hbx:w2.heap[D]? =some (.cells #[.int .i64 wd,.slice ag ms.length c,.int .i64 d,.slice va ts.length vc,.int .i64 nx] 52):=by rw [<-hw2,<-hD];exact heap_alloc_new w1 _
 have hDl:w.heap.size<D:=by have:=HG0.out.1;have:=g1.size;omega
 have HP2:Hid (StP w w2 q ao n cap D wd d nx ag c ms va vc ts):=by
  have h0:=HG0.out.1
  have hs1:=g1.size
  have hs2:=b2.size
  refine⟨c1.kept14 (b2.block q (by omega)),Zh HG0.out.2 (Zh g1 (Zw b2 _)),(b2.block _ (by omega)).trans ((g1.block _ (by omega) (by simp;omega)).trans HR0.out),hbx,fun w' h1 h2=>?_,by omega,hmb,htb⟩
  have e:∀b,W0.heap.size+1<=b->b<w1.heap.size->w'.heap[b]? =w1.heap[b]? :=fun b h3 h4=>(h2 b (by omega) (by omega) (by omega)).trans (b2.block b h4)
  have hv:=(ZdJ hdr (w':=w') e).view
  rw [hms] at hv
  exact⟨hv,hkt w' (by omega) e⟩
 have HW2:=Za hw2
 have HDD:=Za hD
 have HON:=Za (ZeU q ao n cap 12 w2 HP2.out.cur (HV0.out w2 HP2.out.gr) hn (by omega) (by omega))
 clear hdr hkt htb hmb c1 g1 hcap hms hw2 b2 hbx hD HCS HR0 HG0 hml
 rw [HML.out]
 go_upto_region 2 with fail
 rw [HW2.out]
 try rw [HDD.out]
 clear HW2 HDD HML
 go_wp2_with fail
 refine HON.out.mono ?_
 rintro e w3 ⟨⟨x,rfl⟩,c3,g3⟩
 have HP3:=Za (HP2.out.stay hq hDl g3 c3)
 clear HON HP2 c3 g3 HMS
 go_upto_if 7 with fail
 go_cut [7] from 8 to 32 (fun _ wx=>∃wd d nx ag cm ms va vc ts,StP w wx q ao n cap D wd d nx ag cm ms va vc ts)
 case first=>
  cases x with
  | false=>
    go_wp2_with fail
    go_meet
    exact⟨wd,d,nx,ag,c,ms,va,vc,ts,HP3.out⟩
  | true=>
    have HBE:=Za (ZaV q ao n cap 4 w3 HP3.out.cur (HV0.out _ HP3.out.gr) hn (by omega) (by omega))
    go_wp2_with fail
    refine HBE.out.mono ?_
    rintro e w4 ⟨⟨y,y0,y1,rfl⟩,c4,g4⟩
    have HP4:=Za (HP3.out.stay hq hDl g4 c4)
    clear HBE HP3 c4 g4
    rcases (show y=0\/y=1\/y=2\/y=3 by omega) with rfl | rfl | rfl | rfl
    · have HF:=Za (Zg4 q ao n cap 0 6 w4 HP4.out.cur (HV0.out _ HP4.out.gr) hn (by omega) (by omega) (by omega) (by omega))
      go_wp2_with fail
      refine HF.out.mono ?_
      rintro e w5 ⟨⟨z,z0,z1,rfl⟩,c5,g5⟩
      have HP5:=Za (HP4.out.stay hq hDl g5 c5)
      obtain⟨u0,-,-,-,-,uf,-⟩:=Ze HP5.out.box
      have uf0:=uf 0
      have HZ:Hid (StP w (w5.setCell ⟨D,0,none⟩ (.int .i64 z)) q ao n cap D z d nx ag c ms va vc ts):=HP5.out.put hq hDl (ZI _ _) HP5.out.cur ⟨rfl,rfl,rfl⟩ (Zb ..) (fun j hj=>Below.heap_setCell w5 ⟨D,0,none⟩ _ j hj) (heap_setCell_same w5 D 0 _ _ _ HP5.out.box) (HP5.out.rows hq (ZI _ _) (Zb ..) (fun j hj=>Below.heap_setCell w5 ⟨D,0,none⟩ _ j hj)) HP5.out.cp HP5.out.mb HP5.out.tb
      clear c5 g5 uf HF HP4
      go_wp2_with fail
      go_meet
      exact⟨_,_,_,_,_,_,_,_,_,HZ.out⟩
    · have ga:=World.grownBy_alloc w4 (.cells #[.int .i64 0,.int .i64 1,.int .i64 1000000,.int .i64 1000001] 2) (some q)
      have HP5:=Za (HP4.out.stay hq hDl ga (HP4.out.cur.alloc _))
      have HB5:=Za (ZaV q ao n cap 4 _ HP5.out.cur (HV0.out _ HP5.out.gr) hn (by omega) (by omega))
      have hs5:w.heap.size<w4.heap.size:=HP4.out.lt.2
      clear ga
      go_wp2_with fail
      refine HB5.out.mono ?_
      rintro e w6 ⟨⟨z,z0,z1,rfl⟩,c6,g6⟩
      obtain⟨yn,rfl⟩:=Int.eq_ofNat_of_zero_le z0
      obtain⟨v,hv3⟩:=ZjN yn (by omega)
      have ht:w6.cell? ⟨w4.heap.size,yn,none⟩=some (.int .i64 v):=g6.cell (by rw [World.cell?_alloc_at _ _ _ _ rfl];exact hv3) (by simp;omega)
      have hy2:(yn:Int)<4:=by omega
      have HP6:=Za (HP5.out.stay hq hDl g6 c6)
      obtain⟨-,-,-,-,u4,uf,-⟩:=Ze HP6.out.box
      have uf4:=uf 4
      have HZ:Hid (StP w (w6.setCell ⟨D,4,none⟩ (.int .i64 v)) q ao n cap D wd d v ag c ms va vc ts):=HP6.out.put hq hDl (ZI _ _) HP6.out.cur ⟨rfl,rfl,rfl⟩ (Zb ..) (fun j hj=>Below.heap_setCell w6 ⟨D,4,none⟩ _ j hj) (heap_setCell_same w6 D 4 _ _ _ HP6.out.box) (HP6.out.rows hq (ZI _ _) (Zb ..) (fun j hj=>Below.heap_setCell w6 ⟨D,4,none⟩ _ j hj)) HP6.out.cp HP6.out.mb HP6.out.tb
      clear c6 g6 uf HB5 HP4 HP5
      go_wp2_with fail
      go_meet
      exact⟨_,_,_,_,_,_,_,_,_,HZ.out⟩
    · have HM:=Za (Zid q ao n cap 3 w4 HP4.out.cur (HV0.out _ HP4.out.gr) hn (by omega) (by omega))
      go_wp2_with fail
      refine HM.out.mono ?_
      rintro e w5 ⟨⟨g,cg,es,rfl,hnew⟩,c5,g5⟩
      have HP5:=Za (HP4.out.stay hq hDl g5 c5)
      obtain⟨-,u1,-,-,-,uf,-⟩:=Ze HP5.out.box
      have uf1:=uf 1
      have HZ:Hid (StP w (w5.setCell ⟨D,1,none⟩ (.slice (some ⟨g,0,none⟩) es.length cg)) q ao n cap D wd d nx (some ⟨g,0,none⟩) cg (Zj es) va vc ts):=by
       have far:∀j,j≠D->(w5.setCell ⟨D,1,none⟩ (.slice (some ⟨g,0,none⟩) es.length cg)).heap[j]? =w5.heap[j]? :=fun j hj=>Below.heap_setCell w5 ⟨D,1,none⟩ _ j hj
       have hsz:(w5.setCell ⟨D,1,none⟩ (.slice (some ⟨g,0,none⟩) es.length cg)).heap.size=w5.heap.size:=Zb ..
       have hl4:=HP4.out.lt
       refine HP5.out.put hq hDl (ZI _ _) HP5.out.cur ⟨rfl,rfl,rfl⟩ hsz far ?_ (fun w' h1 h2=>⟨?_,(HP5.out.rows hq (ZI _ _) hsz far w' h1 h2).2⟩) (by rw [Zp];exact hnew.2.1.cap) ?_ HP5.out.tb
       · rw [Zp];exact heap_setCell_same w5 D 1 _ _ _ HP5.out.box
       · exact (ZaC hnew.2.1 (w':=w') (fun b h3 h4=>(h2 b (by omega) (by omega) (by omega)).trans (far b (by omega)))).view
       · obtain⟨width,id,h1,h2,-,hgd⟩:=hnew.2.2
         exact ZnC (by have:=hnew.1;omega) (fun x hx=>by have:=(hgd.1 x hx).2.2.1;omega)
      clear hnew c5 g5 uf HM HP4
      go_wp2_with fail
      go_meet
      exact⟨_,_,_,_,_,_,_,_,_,HZ.out⟩
    · have HT:=Za (ZjM q ao n cap w4 HP4.out.cur (HV0.out _ HP4.out.gr) hn)
      go_wp2_with fail
      refine HT.out.mono ?_
      rintro e w5 ⟨⟨d5,a5,c5',ts5,rfl,hk5,hc5,hb5⟩,c5,g5⟩
      have HP5:=Za (HP4.out.stay hq hDl g5 c5)
      obtain⟨-,-,u2,u3,-,uf,-⟩:=Ze HP5.out.box
      have uf2:=uf 2
      have uf3:=uf 3
      have HZ:Hid (StP w ((w5.setCell ⟨D,2,none⟩ (.int .i64 d5)).setCell ⟨D,3,none⟩ (.slice a5 ts5.length c5')) q ao n cap D wd d5 nx ag c ms a5 c5' ts5):=by
       have far:∀j,j≠D->((w5.setCell ⟨D,2,none⟩ (.int .i64 d5)).setCell ⟨D,3,none⟩ (.slice a5 ts5.length c5')).heap[j]? =w5.heap[j]? :=fun j hj=>(Below.heap_setCell _ ⟨D,3,none⟩ _ j hj).trans (Below.heap_setCell w5 ⟨D,2,none⟩ _ j hj)
       have hsz:((w5.setCell ⟨D,2,none⟩ (.int .i64 d5)).setCell ⟨D,3,none⟩ (.slice a5 ts5.length c5')).heap.size=w5.heap.size:=by rw [Zb,Zb]
       have hl4:=HP4.out.lt
       exact HP5.out.put hq hDl (ZI _ _) HP5.out.cur ⟨rfl,rfl,rfl⟩ hsz far (ZjO HP5.out.box) (fun w' h1 h2=>⟨(HP5.out.rows hq (ZI _ _) hsz far w' h1 h2).1,hk5 w' (by omega) (fun b h3 h4=>(h2 b (by omega) (by omega) (by omega)).trans (far b (by omega)))⟩) HP5.out.cp HP5.out.mb hb5
      clear hk5 hc5 hb5 c5 g5 uf HT HP4
      go_wp2_with fail
      go_meet
      exact⟨_,_,_,_,_,_,_,_,_,HZ.out⟩
 case rest=>
  obtain⟨wd,d,nx,ag,cm,ms,va,vc,ts,hp⟩:=hcut
  have HP:=Za hp
  clear hp HP3
  obtain⟨b0,b1,b2,b3,b4,-,-⟩:=Ze HP.out.box
  obtain⟨f0,f1,f2,f3,f4,ff,-⟩:=Ze HP.out.r0
  have ff0:=ff 0
  have ff1:=ff 1
  have ff2:=ff 2
  have ff3:=ff 3
  have ff4:=ff 4
  clear ff
  go_wp2_with fail
  obtain⟨wy,hwy⟩:∃wy,wy=((((wc.setCell ⟨w.heap.size,0,none⟩ (.int .i64 wd)).setCell ⟨w.heap.size,1,none⟩ (.slice ag ms.length cm)).setCell ⟨w.heap.size,2,none⟩ (.int .i64 d)).setCell ⟨w.heap.size,3,none⟩ (.slice va ts.length vc)).setCell ⟨w.heap.size,4,none⟩ (.int .i64 nx):=⟨_,rfl⟩
  rw [<-hwy]
  obtain⟨hf,hy⟩:=HP.out.fin hq hwy
  have HFIN:=Za hf
  obtain⟨y0,y1,y2,y3,y4,-,-⟩:=Ze hy
  clear hwy hf hy b0 b1 b2 b3 b4 f0 f1 f2 f3 f4 ff0 ff1 ff2 ff3 ff4
  refine bodyPost_ret (v:=.agg #[.int .i64 wd,.slice ag ms.length cm,.int .i64 d,.slice va ts.length vc,.int .i64 nx]) (by simp [results,Tryz.results125,go_sem,y0,y1,y2,y3,y4]) rfl ?_
  exact⟨⟨wd,d,nx,ag,cm,ms,va,vc,ts,rfl,HFIN.out.1,HP.out.cp,HP.out.mb,HP.out.tb⟩,HFIN.out.2⟩
def SGot(base:Nat)(w:World)(ag:Option Addr)(cm:Nat)(ms:List Mk)(va:Option Addr)(ts:List Wb):Prop:=Zg3 base w ag ms va ts/\ms.length<=cm/\Zgs ms/\Zck ts
def Zji(base:Nat)(w:World)(aq:Option Addr)(q:List Int):Prop:=∀w':World,w.heap.size<=w'.heap.size->(∀b,base<=b->b<w.heap.size->w'.heap[b]? =w.heap[b]?)->Zs w' aq q
theorem Zg3.now{base:Nat}{w:World}{ag:Option Addr}{ms:List Mk}{va:Option Addr}{ts:List Wb}(h:Zg3 base w ag ms va ts):Zq w ag ms/\Zz true w va ts:=h w (Nat.le_refl _) (fun _ _ _=>rfl)
theorem Zji.now{base:Nat}{w:World}{aq:Option Addr}{q:List Int}(h:Zji base w aq q):Zs w aq q:=h w (Nat.le_refl _) (fun _ _ _=>rfl)
def DrZ(W':World)(D:Nat)(wd d nx:Int)(ag:Option Addr)(cm:Nat)(ms:List Mk)(va:Option Addr)(vc:Nat)(ts:List Wb):Prop:=W'.cell? ⟨D,0,none⟩=some (.int .i64 wd)/\W'.cell? ⟨D,1,none⟩=some (.slice ag ms.length cm)/\W'.cell? ⟨D,2,none⟩=some (.int .i64 d)/\W'.cell? ⟨D,3,none⟩=some (.slice va ts.length vc)/\W'.cell? ⟨D,4,none⟩=some (.int .i64 nx)
structure DrQ(w wr:World)(Q:Nat)(ao:Option Addr)(n cap D:Nat)(wd d nx:Int)(ag:Option Addr)(cm:Nat)(ms:List Mk)(va:Option Addr)(vc:Nat)(ts:List Wb):Prop where
 cur:Cur wr Q ao n cap
 L:Below w.heap.size w wr
 r0:wr.heap[w.heap.size]? =some (.cells #[.int .i64 0,.slice none 0 0,.int .i64 0,.slice none 0 0,.int .i64 0] 52)
 box:wr.heap[D]? =some (.cells #[.int .i64 wd,.slice ag ms.length cm,.int .i64 d,.slice va ts.length vc,.int .i64 nx] 52)
 tw:∀w':World,D<=w'.heap.size->(∀b,Q<b->b<D->w'.heap[b]? =wr.heap[b]?)->Zq w' ag ms/\Zz true w' va ts
 cp:ms.length<=cm
 mb:Zgs ms
 tb:Zck ts
 ord:w.heap.size+1<=Q/\Q<D
theorem DrQ.lt{w wr:World}{Q:Nat}{ao:Option Addr}{n cap D:Nat}{wd d nx:Int}{ag:Option Addr}{cm:Nat}{ms:List Mk}{va:Option Addr}{vc:Nat}{ts:List Wb}(h:DrQ w wr Q ao n cap D wd d nx ag cm ms va vc ts):D<wr.heap.size/\w.heap.size<wr.heap.size:=⟨(Ze h.box).2.2.2.2.2.2,(Ze h.r0).2.2.2.2.2.2⟩
theorem DrQ.z{w wr:World}{Q:Nat}{ao:Option Addr}{n cap D:Nat}{wd d nx:Int}{ag:Option Addr}{cm:Nat}{ms:List Mk}{va:Option Addr}{vc:Nat}{ts:List Wb}(h:DrQ w wr Q ao n cap D wd d nx ag cm ms va vc ts):DrZ wr D wd d nx ag cm ms va vc ts:=by
 obtain⟨b0,b1,b2,b3,b4,-,-⟩:=Ze h.box
 exact⟨b0,b1,b2,b3,b4⟩
theorem DrQ.stay{w wr wy:World}{Q:Nat}{ao:Option Addr}{n cap D:Nat}{wd d nx:Int}{ag:Option Addr}{cm:Nat}{ms:List Mk}{va:Option Addr}{vc:Nat}{ts:List Wb}(h:DrQ w wr Q ao n cap D wd d nx ag cm ms va vc ts)(hg:wr.grownBy wy (some Q))(hc:Cur wy Q ao n cap):DrQ w wy Q ao n cap D wd d nx ag cm ms va vc ts:=by
 obtain⟨o1,o2⟩:=h.ord
 have hl:=h.lt
 have hsz:=hg.size
 have hold:∀b,b<wr.heap.size->b≠Q->wy.heap[b]? =wr.heap[b]? :=fun b h1 h2=>hg.block b h1 (by simp;exact h2)
 exact⟨hc,⟨hg.os.trans h.L.os,hg.tape.trans h.L.tape,hg.output.trans h.L.output,by have:=h.L.size;omega,fun b hb=>(hold b (by omega) (by omega)).trans (h.L.block b hb)⟩,(hold _ hl.2 (by omega)).trans h.r0,(hold _ hl.1 (by omega)).trans h.box,fun w' h1 h2=>h.tw w' h1 (fun b hb1 hb2=>(h2 b hb1 hb2).trans (hold b (by omega) (by omega))),h.cp,h.mb,h.tb,h.ord⟩
theorem DrQ.fin{w wr wy:World}{Q:Nat}{ao:Option Addr}{n cap D:Nat}{wd d nx:Int}{ag:Option Addr}{cm:Nat}{ms:List Mk}{va:Option Addr}{vc:Nat}{ts:List Wb}(h:DrQ w wr Q ao n cap D wd d nx ag cm ms va vc ts)
 (hwy:((((wr.setCell ⟨w.heap.size,0,none⟩ (.int .i64 wd)).setCell ⟨w.heap.size,1,none⟩ (.slice ag ms.length cm)).setCell ⟨w.heap.size,2,none⟩ (.int .i64 d)).setCell ⟨w.heap.size,3,none⟩ (.slice va ts.length vc)).setCell ⟨w.heap.size,4,none⟩ (.int .i64 nx)=wy):
 DrZ wy D wd d nx ag cm ms va vc ts/\DrZ wy w.heap.size wd d nx ag cm ms va vc ts/\SGot w.heap.size wy ag cm ms va ts/\Below w.heap.size w wy/\(∀b,Q<=b->wy.heap[b]? =wr.heap[b]?):=by
 obtain⟨o1,o2⟩:=h.ord
 have hl:=h.lt
 have far:∀j,j≠w.heap.size->wy.heap[j]? =wr.heap[j]? :=fun j hj=>by rw [<-hwy];exact Zbw hj
 have hsy:wy.heap.size=wr.heap.size:=by rw [<-hwy];simp only [Zb]
 obtain⟨b0,b1,b2,b3,b4,-,-⟩:=Ze ((far D (by omega)).trans h.box)
 have hy:wy.heap[w.heap.size]? =some (.cells #[.int .i64 wd,.slice ag ms.length cm,.int .i64 d,.slice va ts.length vc,.int .i64 nx] 52):=by rw [<-hwy];exact ZbW h.r0
 obtain⟨y0,y1,y2,y3,y4,-,-⟩:=Ze hy
 refine⟨⟨b0,b1,b2,b3,b4⟩,⟨y0,y1,y2,y3,y4⟩,⟨fun w' h1 h2=>h.tw w' (by omega) (fun b hb hb2=>(h2 b (by omega) (by omega)).trans (far b (by omega))),h.cp,h.mb,h.tb⟩,?_,fun b hb=>far b (by omega)⟩
 rw [<-hwy]
 exact ((((h.L.setCell (Nat.le_refl _) _).setCell (Nat.le_refl _) _).setCell (Nat.le_refl _) _).setCell (Nat.le_refl _) _).setCell (Nat.le_refl _) _
theorem ZfN(ao:Option Addr)(n cap:Nat)(w:World)(hv:ZW w ao n)(hn:n<=4096):
 Calls Tryz.prog 35 #[.slice ao n cap] w fun e w'=>(∃x:Int,-1<=x/\x<=7/\e=.returned (.int .i64 x))/\Below w.heap.size w w':=by
 have HN:=Za (cNew ao n cap w hv hn)
 have HV:=Za hv
 clear hv
 go_enter Tryz.func35,Tryz.ntmps35
 go_wp2_with fail
 refine HN.out.mono ?_
 rintro e w1 ⟨rfl,c1,L1⟩
 have HF:=Za (Zg4 w.heap.size ao n cap (-1) 7 w1 c1 (HV.out.below (Nat.le_refl _) L1) hn (by omega) (by omega) (by omega) (by omega))
 have HL:=Za L1
 clear c1 L1 HN
 go_wp2_with fail
 refine HF.out.mono ?_
 rintro e w2 ⟨⟨x,x0,x1,rfl⟩,c2,g2⟩
 have HL2:=Za (HL.out.grown g2 HL.out.size (fun k hk=>by injection hk with hk;omega))
 clear c2 g2 HF
 go_wp2_with fail
 go_ret
 exact⟨⟨x,x0,x1,rfl⟩,HL2.out⟩
theorem ZnS(x y:Int)(w:World):Calls Tryz.prog 127 #[.int .i64 x,.int .i64 y] w fun e w'=>e=.returned (.int .i64 (min x y))/\w'=w:=sMin x y w
theorem ZnT(wd:Int):∃m:Nat,ZjP 1 (min 4 wd)=(m:Int)/\1<=m/\m<=4:=by
 refine⟨(ZjP 1 (min 4 wd)).toNat,?_,?_,?_⟩ <;> (unfold ZjP;omega)
theorem ZjQ{base:Nat}{w:World}{g c:Nat}{xs:List Int}(h:ZF base w g c xs):xs.length<=c:=by
 obtain⟨-,⟨e,-⟩ | ⟨g',cap,cur,e,-,-,hc,-⟩⟩:=h
 · cases e
 · injection e with e1 e2 e3;omega
theorem ZjR(ao:Option Addr)(n cap:Nat)(w:World)(hv:ZW w ao n)(hn:n<=4096):
 Calls Tryz.prog 33 #[.slice ao n cap] w fun e w'=>∃wd d nx ag cm ms va vc ts x,e=.returned (.tuple #[.agg #[.int .i64 wd,.slice ag ms.length cm,.int .i64 d,.slice va ts.length vc,.int .i64 nx],.int .i64 x])/\SGot w.heap.size w' ag cm ms va ts/\Below w.heap.size w w':=by
 obtain⟨W,hW⟩:∃W,w.alloc (.cells #[.int .i64 0,.slice none 0 0,.int .i64 0,.slice none 0 0,.int .i64 0] 52)=W:=⟨_,rfl⟩
 have sW:W.heap.size=w.heap.size+1:=by rw [<-hW];simp
 have LW:Below w.heap.size w W:=by rw [<-hW];exact (Below.refl _ _).alloc (Nat.le_refl _) _
 have tA:W.heap[w.heap.size]? =some (.cells #[.int .i64 0,.slice none 0 0,.int .i64 0,.slice none 0 0,.int .i64 0] 52):=by rw [<-hW];exact heap_alloc_new w _
 have vW:=hv.below (Nat.le_refl _) LW
 have HN:=Za (cNew ao n cap W vW hn)
 have HCV:Hid (∀wr,Below w.heap.size w wr->ZW wr ao n):=fun wr L=>hv.below (Nat.le_refl _) L
 have HWW:=Za hW
 have HST:=Za (And.intro LW (And.intro tA sW))
 clear sW hW LW tA vW hv
 go_enter Tryz.func33,Tryz.ntmps33
 go_upto_region 1 with fail
 rw [HWW.out]
 clear HWW
 go_wp2_with fail
 refine HN.out.mono ?_
 rintro e w1 ⟨rfl,c1,L1⟩
 have hq1:=c1.lt
 have HL1:=Za (Zd HST.out.1 L1)
 have HT1:Hid (w1.heap[w.heap.size]? =some (.cells #[.int .i64 0,.slice none 0 0,.int .i64 0,.slice none 0 0,.int .i64 0] 52)):=(L1.block _ (by have:=HST.out.2.2;omega)).trans HST.out.2.1
 have HCA:=Za (ZfS W.heap.size ao n cap w1 c1 (HCV.out w1 HL1.out) hn)
 have hQw:w.heap.size+1<=W.heap.size:=by have:=HST.out.2.2;omega
 clear HN HST L1 c1
 generalize hQ:W.heap.size=Q at *
 clear hQ
 go_wp2_with fail
 refine HCA.out.mono ?_
 rintro e w2 ⟨⟨wd,d,nx,ag,cm,ms,va,vc,ts,rfl,hk,hcp,hmb,htb⟩,c2,g2⟩
 have hs2:=g2.size
 obtain⟨D,hD⟩:∃D,w2.heap.size=D:=⟨_,rfl⟩
 obtain⟨w6,hw6⟩:∃W,w2.alloc (.cells #[.int .i64 wd,.slice ag ms.length cm,.int .i64 d,.slice va ts.length vc,.int .i64 nx] 52)=W:=⟨_,rfl⟩
 have b6:Below w2.heap.size w2 w6:=by rw [<-hw6];exact (Below.refl _ _).alloc (Nat.le_refl _) _
 have tD:w6.heap[D]? =some (.cells #[.int .i64 wd,.slice ag ms.length cm,.int .i64 d,.slice va ts.length vc,.int .i64 nx] 52):=by rw [<-hw6,<-hD];exact heap_alloc_new w2 _
 have hs1w:=HL1.out.size
 have HP6:Hid (DrQ w w6 Q ao n cap D wd d nx ag cm ms va vc ts):=by
  have g13:w1.grownBy w6 (some Q):=Zh g2 (Zw b6 _)
  have hl1:=(Ze HT1.out).2.2.2.2.2.2
  exact⟨c2.kept14 (b6.block Q (by omega)),⟨g13.os.trans HL1.out.os,g13.tape.trans HL1.out.tape,g13.output.trans HL1.out.output,by have:=g13.size;omega,fun b hb=>(g13.block b (by omega) (by simp;omega)).trans (HL1.out.block b hb)⟩,(g13.block _ hl1 (by simp;omega)).trans HT1.out,tD,fun w' h1 h2=>hk w' (by omega) (fun b hb1 hb2=>(h2 b (by omega) (by omega)).trans (b6.block b hb2)),hcp,hmb,htb,⟨by omega,by omega⟩⟩
 have HW6:=Za hw6
 have HDD:=Za hD
 clear hk hcp hmb htb c2 g2 hs2 b6 tD hs1w hw6 HCA HL1 HT1 hq1 hD
 go_upto_region 3 with fail
 rw [HW6.out]
 try rw [HDD.out]
 clear HW6 HDD
 obtain⟨b0,b1,b2,b3,b4,-,-⟩:=Ze HP6.out.box
 have gd:w6.grownBy w6.drew (some Q):=⟨rfl,rfl,rfl,Nat.le_refl _,fun _ _ _=>rfl⟩
 have HP7:Hid (DrQ w w6.drew Q ao n cap D wd d nx ag cm ms va vc ts):=HP6.out.stay gd HP6.out.cur
 have HF:=Za (Zg4 Q ao n cap (-1) 10 w6.drew HP7.out.cur (HCV.out _ HP7.out.L) hn (by omega) (by omega) (by omega) (by omega))
 refine Zt (S:=fun W'=>DrZ W' D wd d nx ag cm ms va vc ts) (fuel:=3) [0,1] (by kernel_rfl) (by kernel_rfl) (by kernel_rfl) (by kernel_rfl) HP7.out.z (fun _=>?_)
 iterate 2 (refine⟨_,rfl,?_⟩;apply Exists.intro;refine⟨Or.inl ⟨by rfl,fun w' hw'=>?_⟩,?_⟩;(focus (obtain⟨s0,s1,s2,s3,s4⟩:=hw';first | (go_simp;done) | (go_simp;with_reducible rfl)));simp only [Act.put,List.getElem_toArray,List.getElem_cons_succ,List.getElem_cons_zero,List.setIfInBounds_toArray,List.set_cons_zero,List.set_cons_succ])
 refine Zc 2 (by kernel_rfl) rfl (fun K hK=>?_)
 go_simp
 refine HF.out.mono ?_
 rintro e wx ⟨⟨x,x0,x1,rfl⟩,c9,g9⟩
 have HP9:=Za (HP7.out.stay g9 c9)
 refine hK.out _ _ HP9.out.z (fun _=>?_)
 clear hK K c9 g9 b0 b1 b2 b3 b4
 obtain⟨f0,f1,f2,f3,f4,ff,-⟩:=Ze HP9.out.r0
 have ff0:=ff 0
 have ff1:=ff 1
 have ff2:=ff 2
 have ff3:=ff 3
 have ff4:=ff 4
 clear ff
 refine Zc 3 (by kernel_rfl) rfl (fun K hK=>?_)
 go_simp
 obtain⟨wy,hwy⟩:∃wy,((((wx.setCell ⟨w.heap.size,0,none⟩ (.int .i64 wd)).setCell ⟨w.heap.size,1,none⟩ (.slice ag ms.length cm)).setCell ⟨w.heap.size,2,none⟩ (.int .i64 d)).setCell ⟨w.heap.size,3,none⟩ (.slice va ts.length vc)).setCell ⟨w.heap.size,4,none⟩ (.int .i64 nx)=wy:=⟨_,rfl⟩
 obtain⟨hz,⟨y0,y1,y2,y3,y4⟩,hgot,LV,hqs⟩:=HP9.out.fin hwy
 have HFIN:=Za (And.intro hgot (And.intro LV hqs))
 have HSZ:Hid (wy.heap.size=wx.heap.size):=by show _=_;rw [<-hwy];simp only [Zb]
 rw [hwy]
 clear hwy hgot LV hqs f0 f1 f2 f3 f4 ff0 ff1 ff2 ff3 ff4
 refine hK.out _ _ hz (fun hS4=>?_)
 clear hK K
 refine ZB [4] rfl (by kernel_rfl) (by kernel_rfl) (by kernel_rfl) hS4 ?_
 iterate 1 (refine⟨_,rfl,?_⟩;apply Exists.intro;refine⟨Or.inl ⟨by rfl,fun w' hw'=>?_⟩,?_⟩;(focus (first | (go_simp;done) | (go_simp;with_reducible rfl)));simp only [Act.put,List.getElem_toArray,List.getElem_cons_succ,List.getElem_cons_zero,List.setIfInBounds_toArray,List.set_cons_zero,List.set_cons_succ])
 refine NoPanic.normal (NoPanic.normal ?_)
 go_wp2_with fail
 refine bodyPost_ret (v:=.tuple #[.agg #[.int .i64 wd,.slice ag ms.length cm,.int .i64 d,.slice va ts.length vc,.int .i64 nx],.int .i64 x]) (by simp [results,Tryz.results33,go_sem,y0,y1,y2,y3,y4]) rfl ?_
 exact⟨wd,d,nx,ag,cm,ms,va,vc,ts,x,rfl,HFIN.out.1,HFIN.out.2.1⟩
theorem ZjS(ao:Option Addr)(n cap:Nat)(w:World)(hv:ZW w ao n)(hn:n<=4096):
 Calls Tryz.prog 31 #[.slice ao n cap] w fun e w'=>∃wd d nx ag cm ms va vc ts aq cq q,e=.returned (.tuple #[.agg #[.int .i64 wd,.slice ag ms.length cm,.int .i64 d,.slice va ts.length vc,.int .i64 nx],.slice aq q.length cq])/\SGot w.heap.size w' ag cm ms va ts/\Zji w.heap.size w' aq q/\q.length<=cq/\q.length<=6/\Below w.heap.size w w':=by
 obtain⟨W,hW⟩:∃W,w.alloc (.cells #[.int .i64 0,.slice none 0 0,.int .i64 0,.slice none 0 0,.int .i64 0] 52)=W:=⟨_,rfl⟩
 have sW:W.heap.size=w.heap.size+1:=by rw [<-hW];simp
 have LW:Below w.heap.size w W:=by rw [<-hW];exact (Below.refl _ _).alloc (Nat.le_refl _) _
 have tA:W.heap[w.heap.size]? =some (.cells #[.int .i64 0,.slice none 0 0,.int .i64 0,.slice none 0 0,.int .i64 0] 52):=by rw [<-hW];exact heap_alloc_new w _
 have vW:=hv.below (Nat.le_refl _) LW
 have HN:=Za (cNew ao n cap W vW hn)
 have HCV:Hid (∀wr,Below w.heap.size w wr->ZW wr ao n):=fun wr L=>hv.below (Nat.le_refl _) L
 have HWW:=Za hW
 have HST:=Za (And.intro LW (And.intro tA sW))
 clear sW hW LW tA vW hv
 go_enter Tryz.func31,Tryz.ntmps31
 go_upto_region 1 with fail
 rw [HWW.out]
 clear HWW
 go_wp2_with fail
 refine HN.out.mono ?_
 rintro e w1 ⟨rfl,c1,L1⟩
 have hq1:=c1.lt
 have HL1:=Za (Zd HST.out.1 L1)
 have HT1:Hid (w1.heap[w.heap.size]? =some (.cells #[.int .i64 0,.slice none 0 0,.int .i64 0,.slice none 0 0,.int .i64 0] 52)):=(L1.block _ (by have:=HST.out.2.2;omega)).trans HST.out.2.1
 have HCA:=Za (ZfS W.heap.size ao n cap w1 c1 (HCV.out w1 HL1.out) hn)
 have hQw:w.heap.size+1<=W.heap.size:=by have:=HST.out.2.2;omega
 clear HN HST L1 c1
 generalize hQ:W.heap.size=Q at *
 clear hQ
 go_wp2_with fail
 refine HCA.out.mono ?_
 rintro e w2 ⟨⟨wd,d,nx,ag,cm,ms,va,vc,ts,rfl,hk,hcp,hmb,htb⟩,c2,g2⟩
 have hs2:=g2.size
 obtain⟨D,hD⟩:∃D,w2.heap.size=D:=⟨_,rfl⟩
 obtain⟨w6,hw6⟩:∃W,w2.alloc (.cells #[.int .i64 wd,.slice ag ms.length cm,.int .i64 d,.slice va ts.length vc,.int .i64 nx] 52)=W:=⟨_,rfl⟩
 have b6:Below w2.heap.size w2 w6:=by rw [<-hw6];exact (Below.refl _ _).alloc (Nat.le_refl _) _
 have tD:w6.heap[D]? =some (.cells #[.int .i64 wd,.slice ag ms.length cm,.int .i64 d,.slice va ts.length vc,.int .i64 nx] 52):=by rw [<-hw6,<-hD];exact heap_alloc_new w2 _
 have hs1w:=HL1.out.size
 have HP6:Hid (DrQ w w6 Q ao n cap D wd d nx ag cm ms va vc ts):=by
  have g13:w1.grownBy w6 (some Q):=Zh g2 (Zw b6 _)
  have hl1:=(Ze HT1.out).2.2.2.2.2.2
  exact⟨c2.kept14 (b6.block Q (by omega)),⟨g13.os.trans HL1.out.os,g13.tape.trans HL1.out.tape,g13.output.trans HL1.out.output,by have:=g13.size;omega,fun b hb=>(g13.block b (by omega) (by simp;omega)).trans (HL1.out.block b hb)⟩,(g13.block _ hl1 (by simp;omega)).trans HT1.out,tD,fun w' h1 h2=>hk w' (by omega) (fun b hb1 hb2=>(h2 b (by omega) (by omega)).trans (b6.block b hb2)),hcp,hmb,htb,⟨by omega,by omega⟩⟩
 have HW6:=Za hw6
 have HDD:=Za hD
 clear hk hcp hmb htb c2 g2 hs2 b6 tD hs1w hw6 HCA HL1 HT1 hq1 hD
 go_upto_region 3 with fail
 rw [HW6.out]
 try rw [HDD.out]
 clear HW6 HDD
 obtain⟨b0,b1,b2,b3,b4,-,-⟩:=Ze HP6.out.box
 have gd:w6.grownBy w6.drew (some Q):=⟨rfl,rfl,rfl,Nat.le_refl _,fun _ _ _=>rfl⟩
 have HP7:Hid (DrQ w w6.drew Q ao n cap D wd d nx ag cm ms va vc ts):=HP6.out.stay gd HP6.out.cur
 obtain⟨m,hm,hm1,hm4⟩:=ZnT wd
 have HMN:=Za (fun W'=>ZnS 4 wd W')
 have HMX:Hid (∀W',Calls Tryz.prog 126 #[.int .i64 1,.int .i64 (min 4 wd)] W' fun e w'=>e=.returned (.int .i64 (m:Int))/\w'=W'):=fun W'=>by rw [<-hm];exact sMax 1 (min 4 wd) W'
 clear hm
 have HAN:=Za (cAny Q ao n cap m w6.drew HP7.out.cur (HCV.out _ HP7.out.L) hn (by omega))
 refine Zt (S:=fun W'=>DrZ W' D wd d nx ag cm ms va vc ts) (fuel:=5) [0,1,2,3] (by kernel_rfl) (by kernel_rfl) (by kernel_rfl) (by kernel_rfl) HP7.out.z (fun _=>?_)
 iterate 4 (refine⟨_,rfl,?_⟩;apply Exists.intro;refine⟨Or.inl ⟨by rfl,fun w' hw'=>?_⟩,?_⟩;(focus (obtain⟨s0,s1,s2,s3,s4⟩:=hw';first | (go_simp;done) | (go_simp;with_reducible rfl)));simp only [Act.put,List.getElem_toArray,List.getElem_cons_succ,List.getElem_cons_zero,List.setIfInBounds_toArray,List.set_cons_zero,List.set_cons_succ])
 refine Zc 4 (by kernel_rfl) rfl (fun K hK=>?_)
 go_simp
 refine (HMN.out _).mono ?_
 rintro e v4 ⟨rfl,hv4⟩
 have hv4':=hv4.symm
 subst hv4'
 refine hK.out _ _ HP7.out.z (fun _=>?_)
 clear hK K
 refine Zc 5 (by kernel_rfl) rfl (fun K hK=>?_)
 go_simp
 refine (HMX.out _).mono ?_
 rintro e v5 ⟨rfl,hv5⟩
 have hv5':=hv5.symm
 subst hv5'
 refine hK.out _ _ HP7.out.z (fun _=>?_)
 clear hK K
 refine Zc 6 (by kernel_rfl) rfl (fun K hK=>?_)
 go_simp
 refine HAN.out.mono ?_
 rintro e wx ⟨⟨gq,cq,q,rfl,hq6,hrow⟩,c9,g9⟩
 have HP9:=Za (HP7.out.stay g9 c9)
 have HRW:=Za (And.intro hrow hq6)
 refine hK.out _ _ HP9.out.z (fun _=>?_)
 clear hK K c9 g9 b0 b1 b2 b3 b4 hrow hq6
 obtain⟨f0,f1,f2,f3,f4,ff,-⟩:=Ze HP9.out.r0
 have ff0:=ff 0
 have ff1:=ff 1
 have ff2:=ff 2
 have ff3:=ff 3
 have ff4:=ff 4
 clear ff
 refine Zc 7 (by kernel_rfl) rfl (fun K hK=>?_)
 go_simp
 obtain⟨wy,hwy⟩:∃wy,((((wx.setCell ⟨w.heap.size,0,none⟩ (.int .i64 wd)).setCell ⟨w.heap.size,1,none⟩ (.slice ag ms.length cm)).setCell ⟨w.heap.size,2,none⟩ (.int .i64 d)).setCell ⟨w.heap.size,3,none⟩ (.slice va ts.length vc)).setCell ⟨w.heap.size,4,none⟩ (.int .i64 nx)=wy:=⟨_,rfl⟩
 obtain⟨hz,⟨y0,y1,y2,y3,y4⟩,hgot,LV,hqs⟩:=HP9.out.fin hwy
 have HFIN:=Za (And.intro hgot (And.intro LV hqs))
 have HSZ:Hid (wy.heap.size=wx.heap.size):=by show _=_;rw [<-hwy];simp only [Zb]
 rw [hwy]
 clear hwy hgot LV hqs f0 f1 f2 f3 f4 ff0 ff1 ff2 ff3 ff4
 refine hK.out _ _ hz (fun hS4=>?_)
 clear hK K
 refine ZB [8] rfl (by kernel_rfl) (by kernel_rfl) (by kernel_rfl) hS4 ?_
 iterate 1 (refine⟨_,rfl,?_⟩;apply Exists.intro;refine⟨Or.inl ⟨by rfl,fun w' hw'=>?_⟩,?_⟩;(focus (first | (go_simp;done) | (go_simp;with_reducible rfl)));simp only [Act.put,List.getElem_toArray,List.getElem_cons_succ,List.getElem_cons_zero,List.setIfInBounds_toArray,List.set_cons_zero,List.set_cons_succ])
 refine NoPanic.normal (NoPanic.normal ?_)
 go_wp2_with fail
 have HVQ:Hid (Zji w.heap.size wy (some ⟨gq,0,none⟩) q/\q.length<=cq/\q.length<=6):=by
  have hr:=HRW.out.1
  have hl:=World.ownsRow.lt hr gq rfl
  have:=HP6.out.lt
  have:=HP6.out.ord
  have hsz:w6.drew.heap.size=w6.heap.size:=rfl
  have hzz:=HSZ.out
  exact⟨fun w' h1 h2=>ZF.view (Zav hr ((h2 gq (by omega) (by omega)).trans (HFIN.out.2.2 gq (by omega)))),ZjQ hr,by have:=HRW.out.2;omega⟩
 refine bodyPost_ret (v:=.tuple #[.agg #[.int .i64 wd,.slice ag ms.length cm,.int .i64 d,.slice va ts.length vc,.int .i64 nx],.slice (some ⟨gq,0,none⟩) q.length cq]) (by simp [results,Tryz.results31,go_sem,y0,y1,y2,y3,y4]) rfl ?_
 exact⟨wd,d,nx,ag,cm,ms,va,vc,ts,_,cq,q,rfl,HFIN.out.1,HVQ.out.1,HVQ.out.2.1,HVQ.out.2.2,HFIN.out.2.1⟩
end Go.Proofs.YtaaagmgglolibaaGreat
