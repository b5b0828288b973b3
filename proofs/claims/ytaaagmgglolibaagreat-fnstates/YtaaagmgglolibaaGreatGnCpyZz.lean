import Derived.Test.YtaaagmgglolibaaGreatLkWebZz
import Derived.Test.YtaaagmgglolibaaGreatFeHelpZz
import Derived.Test.YtaaagmgglolibaaGreatTwOkZz
import Derived.Test.YtaaagmgglolibaaGreatTwArgsZz
import Derived.Test.YtaaagmgglolibaaGreatMathZz
import Derived.Test.YtaaagmgglolibaaGreatMCopyZz
import Derived.Test.YtaaagmgglolibaaGreatMMarkZz
import Derived.Test.YtaaagmgglolibaaGreatTwAskZz
import Derived.Test.YtaaagmgglolibaaGreatStHasZz
set_option maxRecDepth 100000
set_option maxHeartbeats 16000000
namespace Go.Proofs.YtaaagmgglolibaaGreat
open Go Go.RowKit
theorem ZaC{base:Nat}{w w':World}{g c:Nat}{ds:List Dm}(h:ZL base w g c ds)(e:∀b,base<=b->b<w.heap.size->w'.heap[b]? =w.heap[b]?):ZL base w' g c ds:=
 ⟨Zaa h.1 (e g h.lt.1 h.lt.2),fun d hd=>⟨(h.2.1 d hd).1.same (e d.2.1 (h.2.1 d hd).1.lt2.1 (h.2.1 d hd).1.lt2.2),(h.2.1 d hd).2⟩,h.2.2⟩
theorem Zjq{base B1 gm c:Nat}{w:World}{ds:List Dm}{ms:List Mk}{ls:List (List Int)}{v:Value}{rs:List Rw}(h1:ZL base w gm c ds)(h2:Zj ds=ms)(h3:Zbv B1 w v rs)(h4:ZaJ rs=ls)(h5:base<=B1):OwW false (Btw base w.heap.size) w (.slice (some ⟨gm,0,none⟩) ms.length c) v ms ls:=by
 have hl:ds.length=ms.length:=by rw [<-h2,Zp]
 have hr:rs.length=ls.length:=by rw [<-h4,ZaJ];simp
 have hc:=h1.cap
 have hv:∃al cl,v=.slice al ls.length cl/\ls.length<=cl/\∀w',Sta (Btw base w.heap.size) w w'->Z8 w' al ls:=by
  rcases h3 with ⟨rfl,rfl⟩ | ⟨gl,cl,rfl,hm⟩
  · have:ls=[]:=by rw [<-h4];rfl
    subst this
    exact⟨none,0,rfl,Nat.le_refl _,fun _ _=>Or.inl rfl⟩
  · have hcap:rs.length<=cl:=by
     obtain⟨-,⟨e,-⟩ | ⟨g',cap,cur,e,-,-,hcc,-⟩⟩:=hm.row
     · cases e
     · injection e with e1 e2 e3;omega
    refine⟨some ⟨gl,0,none⟩,cl,by rw [hr],by omega,fun w' hs=>?_⟩
    have:=(hm.same (w':=w') (fun b hb=>hs.2 b ⟨by have:=(hm.all b hb).1;omega,(hm.all b hb).2⟩)).view
    rw [h4] at this
    exact this.cview
 obtain⟨al,cl,e,hcl,hcv⟩:=hv
 refine⟨fun b hb=>hb.2,fun h=>(by cases h),⟨_,c,al,cl,rfl,e,by omega,hcl,fun w' hs=>⟨?_,hcv w' hs⟩⟩⟩
 have:=(ZaC h1 (w':=w') (fun b hb1 hb2=>hs.2 b ⟨hb1,hb2⟩)).view
 rw [h2] at this
 exact this
def ZdG(base:Nat)(w:World)(v:Value)(ts:List Wb):Prop:=∃S vm vl,TsR false base w v ts S vm vl
theorem Zlt(v0:Bool)(aw:Option Addr)(cw:Nat)(d:Int)(ts:List Wb)(w:World)(hv:Zz v0 w aw ts)(hok:ZZ d ts=true):
 Calls Tryz.prog 196 #[.agg #[.int .i64 d,.slice aw ts.length cw]] w fun e w'=>∃vt,e=.returned (.agg #[.int .i64 d,vt])/\ZdG w.heap.size w' vt ts/\Below w.heap.size w w':=by
 obtain⟨j0,hj0,hy0,hy1,hy2⟩:=info_parts Tryz.info47
 obtain⟨W1,hW1⟩:∃W,w.alloc (.cells #[.int .i64 d,.slice aw ts.length cw] 26)=W:=⟨_,rfl⟩
 obtain⟨W2,hW2⟩:∃W,W1.alloc (.cells #[.int .i64 0,.slice none 0 0] 26)=W:=⟨_,rfl⟩
 obtain⟨W,hW⟩:∃W,W2.alloc (.cells #[.int .i64 d,.slice none 0 0] 26)=W:=⟨_,rfl⟩
 have s1:W1.heap.size=w.heap.size+1:=by rw [<-hW1];simp
 have s2:W2.heap.size=w.heap.size+1+1:=by rw [<-hW2];simp [s1]
 have s3:W.heap.size=w.heap.size+1+1+1:=by rw [<-hW];simp [s2]
 have b1:Below w.heap.size w W1:=by rw [<-hW1];exact (Below.refl _ _).alloc (Nat.le_refl _) _
 have b2:Below W1.heap.size W1 W2:=by rw [<-hW2];exact (Below.refl _ _).alloc (Nat.le_refl _) _
 have b3:Below W2.heap.size W2 W:=by rw [<-hW];exact (Below.refl _ _).alloc (Nat.le_refl _) _
 have t0:Two W w.heap.size (.int .i64 d) (.slice aw ts.length cw) 26:=by
  have:Two W1 w.heap.size (.int .i64 d) (.slice aw ts.length cw) 26:=by rw [<-hW1];exact Two.new w _ _ _
  exact (this.below b2).below b3
 have t1:Two W (w.heap.size+1) (.int .i64 0) (.slice none 0 0) 26:=by
  have:Two W2 (w.heap.size+1) (.int .i64 0) (.slice none 0 0) 26:=by rw [<-hW2,<-s1];exact Two.new W1 _ _ _
  exact this.below b3
 have t2:Two W (w.heap.size+1+1) (.int .i64 d) (.slice none 0 0) 26:=by rw [<-hW,<-s2];exact Two.new W2 _ _ _
 have HB:=Za (Zd (Zd b1 b2) b3)
 have HT:=Za (And.intro t0 (And.intro t1 t2))
 have HSZ:=Za s3
 have HV:=Za hv
 have H4:=Za (ZaW hok).1
 have HWB:Hid (∀i,i<ts.length->Zab (Zl ts i).1 (Zl ts i).2=true):=fun i hi=>Zcd hok (by have:=H4.out;omega)
 have HWW:Hid (((w.alloc (.cells #[.int .i64 d,.slice aw ts.length cw] 26)).alloc (.cells #[.int .i64 0,.slice none 0 0] 26)).alloc (.cells #[.int .i64 d,.slice none 0 0] 26)=W):=by show _=_;rw [hW1,hW2,hW]
 have R0:=Za (TsR.start false W.heap.size W)
 clear hv hok b1 b2 b3 t0 t1 t2 s1 s2 s3 hW hW1 hW2
 go_enter Tryz.func196,Tryz.ntmps196
 go_upto_region 2 with fail
 rw [HWW.out]
 clear HWW
 go_wp2_with fail
 go_loopw [4] (fun vi wr=>∃(i:Nat) (v:Value) (us:List Wb) (S:Nat->Nat->Prop) (vm vl:Nat->Value),i<=ts.length/\vi=.int .i64 i/\us=ts.take i/\us.length=i/\Two wr (w.heap.size+1+1) (.int .i64 d) v 26/\TsR false W.heap.size wr v us S vm vl/\Cgd (fun b=>b=w.heap.size+1+1) W wr) (fun vi _=>ts.length-(intOf vi).toNat)
 case atStart=>exact⟨0,_,[],_,_,_,Nat.zero_le _,rfl,rfl,rfl,HT.out.2.2,R0.out,Cgd.refl _ _⟩
 case round=>
  obtain⟨i,v,us,S,vm,vl,hi,rfl,hus,hul,hto,htr,K⟩:=hrel
  have hzk:=K.2.2.2.1
  have hs3:=HSZ.out
  have LW:Below w.heap.size w wr:=HB.out.trans (K.below (by omega) (fun b hb=>by omega))
  have LX:∀b,b<W.heap.size->b≠w.heap.size+1+1->wr.heap[b]? =W.heap[b]? :=fun b h1 h2=>K.2.2.2.2 b h1 h2
  have c1:wr.cell? ⟨w.heap.size,1,none⟩=some (.slice aw ts.length cw):=(World.cell?_of_block (LX w.heap.size (by omega) (by omega))).trans HT.out.1.c1
  have HTO:=Za hto
  have HTR:=Za htr
  have HK:=Za K
  have HLW:=Za LW
  have HUS:=Za (And.intro hus hul)
  have HLX:=Za LX
  by_cases hlt:i<ts.length
  · obtain⟨wb,wo,am,cm,al,cl,rfl,hwb,d0,d1,hmv,hcv,-⟩:=(HV.out.next LW).web hlt
    have hwbw:wb<w.heap.size:=by
     obtain⟨b',o',_,_,_,_,e',hb',-⟩:=HV.out.web hlt
     injection e' with e'
     injection e' with e1 e2
     omega
    have hweb:=HWB.out i hlt
    have hi0:(0:Int)<=(i:Int):=Int.natCast_nonneg _
    have hi1:(i:Int)<(ts.length:Int):=by omega
    have hi3:i<4:=by have:=H4.out;omega
    obtain⟨q1,q2,q3,q4⟩:=ZaR hweb
    have o1:=hto.c1
    have hol:=hto.lt
    have hcw:=c1
    have HS0:Hid (∀W':World,(∀j,j<W.heap.size->W'.heap[j]? =wr.heap[j]?)->W'.cell? ⟨w.heap.size+1+1,1,none⟩=some v/\W'.cell? ⟨w.heap.size,1,none⟩=some (.slice (some ⟨wb,wo,none⟩) ts.length cw)/\W'.cell? ⟨wb,wo+i*2,none⟩=some (.slice am (Zl ts i).1.length cm)/\W'.cell? ⟨wb,wo+i*2+1,none⟩=some (.slice al (Zl ts i).2.length cl)):=fun W' h=>⟨(World.cell?_of_block (h (w.heap.size+1+1) (by omega))).trans o1,(World.cell?_of_block (h w.heap.size (by omega))).trans hcw,(World.cell?_of_block (a:=⟨wb,wo+i*2,none⟩) (h wb (by omega))).trans d0,(World.cell?_of_block (a:=⟨wb,wo+i*2+1,none⟩) (h wb (by omega))).trans d1⟩
    have HC:=Za (Zk9 am al cm cl (Zl ts i).1 (Zl ts i).2 wr.drew (hmv.next (Below.refl _ _).drew) (hcv.next (Below.refl _ _).drew) q1 q2 q3 q4)
    obtain⟨ml,hml⟩:∃ml,(Zl ts i).1.length=ml:=⟨_,rfl⟩
    obtain⟨ll,hll⟩:∃ll,(Zl ts i).2.length=ll:=⟨_,rfl⟩
    have HID:=Za (And.intro hml hll)
    rw [hml] at HC HS0 d0
    rw [hll] at HC HS0 d1
    clear hml hll hto htr K LW LX hmv hcv hus hul hweb q1 q2 q3 q4 o1 hcw
    go_wp2_with fail
    clear c1 d0 d1
    refine ZR (S:=fun W'=>W'.cell? ⟨w.heap.size+1+1,1,none⟩=some v/\W'.cell? ⟨w.heap.size,1,none⟩=some (.slice (some ⟨wb,wo,none⟩) ts.length cw)/\W'.cell? ⟨wb,wo+i*2,none⟩=some (.slice am ml cm)/\W'.cell? ⟨wb,wo+i*2+1,none⟩=some (.slice al ll cl)) (fuel:=4)
     [0,1,2,3,4,5,6] _ rfl (by kernel_rfl) (by kernel_rfl) (by kernel_rfl) (by kernel_rfl) (by kernel_rfl) (by kernel_rfl) (by kernel_rfl) (HS0.out _ (fun j _=>rfl)) (fun _=>?_)
    iterate 7 (refine⟨_,rfl,?_⟩;apply Exists.intro;refine⟨Or.inl ⟨by rfl,fun w' hw'=>?_⟩,?_⟩;(focus (obtain⟨e1,e2,e3,e4⟩:=hw';first | (go_simp;done) | (go_simp;with_reducible rfl)));simp only [Act.put,List.setIfInBounds_toArray])
    refine Zc 7 (by kernel_rfl) rfl (fun K hK=>?_)
    go_simp
    refine HC.out.mono ?_
    rintro e w5 ⟨gm,c,dd,v3,rs,B1,rfl,hd1,hd2,hl1,hl2,-,-,hb1,-,L5⟩
    have L5':Below wr.heap.size wr w5:=⟨L5.os,L5.tape,L5.output,L5.size,L5.block⟩
    have how:=Zjq hd1 hd2 hl1 hl2 hb1
    have hdz:wr.drew.heap.size=wr.heap.size:=rfl
    rw [hdz] at how
    rw [HID.out.1] at how
    obtain⟨am3,cm3,al3,cl3,e31,rfl,-,-,-⟩:=how.view
    rw [HID.out.2] at how
    have HOW:=Za how
    have HL5:=Za L5'
    have hz5:=L5'.size
    clear hd1 hd2 hl1 hl2 hb1 L5 L5' how hdz e31 HC
    rw [HID.out.2]
    refine hK.out _ _ (HS0.out _ (fun j hj=>HL5.out.block j (by omega))) (fun _=>?_)
    clear hK K
    refine Zc 8 (by kernel_rfl) rfl (fun K hK=>?_)
    go_simp
    obtain⟨w7,hw7⟩:∃w7,w5.alloc (.cells #[.slice (some ⟨gm,0,none⟩) ml c,.slice al3 ll cl3] 47)=w7:=⟨_,rfl⟩
    have HN7:Hid (w7.heap[w5.heap.size]? =some (.cells #[.slice (some ⟨gm,0,none⟩) ml c,.slice al3 ll cl3] 47 (0,0))):=by show _=_;rw [<-hw7];exact heap_alloc_new w5 _
    have L57:Below w5.heap.size w5 w7:=by rw [<-hw7];exact (Below.refl _ _).alloc (Nat.le_refl _) _
    have hs7:w7.heap.size=w5.heap.size+1:=by rw [<-hw7];simp
    have HL7:=Za (Zd HL5.out L57)
    have HTR7:=Za (HTR.out.next HL7.out)
    have HOW7:=Za (HOW.out.next L57)
    try rw [Nat.zero_add]
    try rw [hw7]
    clear hw7 L57
    refine hK.out _ _ (HS0.out _ (fun j hj=>HL7.out.block j (by omega))) (fun _=>?_)
    clear hK K
    refine Zc 9 (by kernel_rfl) rfl (fun K hK=>?_)
    refine step_append_lies w7 rfl (.tmp 16) (.tmp 23) 24 rfl W.heap.size 47 j0 _ 2 48 Tryz.underlying24 hj0 hy0 hy1 hy2 rfl (by omega) v us.length (ZbK vm vl us.length) rfl HTR7.out.row ⟨w5.heap.size,0,none⟩ 1 1 [.slice (some ⟨gm,0,none⟩) ml c,.slice al3 ll cl3] rfl rfl (World.news_of_block (cs:=#[.slice (some ⟨gm,0,none⟩) ml c,.slice al3 ll cl3]) HN7.out) (by simp [Value.oneCell']) (by omega) (by have:=HUS.out.2;unfold maxLen;omega) (by have:=HUS.out.2;omega) (by omega) w7.heap.size rfl ?_
    intro g8 c8 w8 hown8 hgrow8 hat8 hlt8
    have hlow:=HTR.out.bnd
    have hul:=HUS.out.2
    have hrowlt:∀q,v.ownBlock=some q->W.heap.size<=q/\q<wr.heap.size:=fun q e=>hlow q (Or.inl e)
    have hOW8:OwW false (Btw wr.heap.size w5.heap.size) w8 (.slice (some ⟨gm,0,none⟩) ml c) (.slice al3 ll cl3) (Zl ts i).1 (Zl ts i).2:=HOW7.out.sm ⟨hgrow8.size,fun b hb=>hgrow8.block b (by have:=hb.2;omega) (fun e=>by have:=hrowlt b e.symm;have:=hb.1;omega)⟩
    have HM8:=Za (HTR.out.snoc (w8:=w8) (t:=Zl ts i) hown8 (by have:=hgrow8.size;omega) (fun b hb hne=>(hgrow8.block b (by omega) (fun e=>hne e.symm)).trans (HL7.out.block b hb)) hOW8 (fun b hb=>⟨hb.1,fun e=>by
     rcases hat8 with h1 | h1
     · have:=hrowlt g8 h1;have:=hb.1;omega
     · have:=hb.2;omega⟩) (by rcases hat8 with h1 | h1;exact Or.inl h1;exact Or.inr (by omega)) (by omega) (by omega))
    have HG8:Hid (W.heap.size<=g8):=by
     show _<=_
     rcases hat8 with h1 | h1
     · exact (hrowlt g8 h1).1
     · omega
    have HK8:Hid (∀j,j<W.heap.size->w8.heap[j]? =wr.heap[j]?):=fun j hj=>(hgrow8.block j (by omega) (fun e=>by have:=hrowlt j e.symm;omega)).trans (HL7.out.block j (by omega))
    have hz8:=hgrow8.size
    have HKK:Hid (w8.os=wr.os/\w8.tape=wr.tape/\w8.output=wr.output):=⟨hgrow8.os.trans HL7.out.os,hgrow8.tape.trans HL7.out.tape,hgrow8.output.trans HL7.out.output⟩
    clear hown8 hgrow8 hlow hrowlt hOW8 hul
    refine hK.out _ _ (HS0.out _ HK8.out) (fun _=>?_)
    clear hK K
    refine Zc 10 (by kernel_rfl) rfl (fun K hK=>?_)
    go_simp
    refine hK.out _ _ (HS0.out _ HK8.out) (fun _=>?_)
    clear hK K
    refine wpAnyH_done (by kernel_rfl) ?_ _
    simp only [Exit.then]
    have t8:Two w8 (w.heap.size+1+1) (.int .i64 d) v 26:=(HK8.out (w.heap.size+1+1) (by omega)).trans HTO.out
    have u1:=t8.c1
    have uf1:=t8.frozen 1
    have HT9:=Za (t8.set1 (.slice (some ⟨g8,0,none⟩) (us.length+1) c8))
    have HM9:=Za (HM8.out.sm (w':=w8.setCell ⟨w.heap.size+1+1,1,none⟩ (.slice (some ⟨g8,0,none⟩) (us.length+1) c8)) ⟨by rw [Zb];exact Nat.le_refl _,fun b hb=>Below.heap_setCell w8 ⟨w.heap.size+1+1,1,none⟩ _ b (fun e=>by have h1:=(HM8.out.bnd b (by simpa using hb)).1;have e':b=w.heap.size+1+1:=e;omega)⟩)
    have HK9:Hid (Cgd (fun b=>b=w.heap.size+1+1) W (w8.setCell ⟨w.heap.size+1+1,1,none⟩ (.slice (some ⟨g8,0,none⟩) (us.length+1) c8))):=⟨HKK.out.1.trans HK.out.1,HKK.out.2.1.trans HK.out.2.1,HKK.out.2.2.trans HK.out.2.2.1,by rw [Zb];omega,fun j hj hne=>(Below.heap_setCell w8 ⟨w.heap.size+1+1,1,none⟩ _ j (fun e=>hne e)).trans ((HK8.out j hj).trans (HK.out.2.2.2.2 j hj hne))⟩
    clear HS0 HL5 HL7 HTR7 HN7 HM8 HK8 HKK t8 HOW HOW7
    go_wp2_with fail
    refine NoPanic.normal ?_
    go_wp2_with fail
    go_roundw
    case rel=>exact⟨i+1,_,us++[Zl ts i],_,_,_,by omega,by go_num,by rw [HUS.out.1,List.take_add_one];congr 1;simp [Zl,List.getD,hlt],by simp [HUS.out.2],HT9.out,HM9.out,HK9.out⟩
    case measure=>simp [intOf];omega
  · obtain rfl:i=ts.length:=by omega
    have hut:us=ts:=by rw [hus,List.take_length]
    subst hut
    obtain⟨a,cc,rfl,-,-⟩:=htr.form
    have p1:Two wr (w.heap.size+1) (.int .i64 0) (.slice none 0 0) 26:=(LX (w.heap.size+1) (by omega) (by omega)).trans HT.out.2.1
    have q0:=p1.c0
    have q1:=p1.c1
    have qf0:=p1.frozen 0
    have qf1:=p1.frozen 1
    have o0:=hto.c0
    have o1:=hto.c1
    have p2:=(p1.set0 (.int .i64 d)).set1 (.slice a us.length cc)
    have r0:=p2.c0
    have r1:=p2.c1
    obtain⟨wz,hwz⟩:∃wz,(wr.setCell ⟨w.heap.size+1,0,none⟩ (.int .i64 d)).setCell ⟨w.heap.size+1,1,none⟩ (.slice a us.length cc)=wz:=⟨_,rfl⟩
    have hfar:∀j,j≠w.heap.size+1->wz.heap[j]? =wr.heap[j]? :=fun j hj=>by
     rw [<-hwz,Below.heap_setCell _ ⟨w.heap.size+1,1,none⟩ _ j (fun e=>hj e),Below.heap_setCell _ ⟨w.heap.size+1,0,none⟩ _ j (fun e=>hj e)]
    have hsz:wz.heap.size=wr.heap.size:=by rw [<-hwz];simp [World.setCell]
    have LE:Below w.heap.size w wz:=by rw [<-hwz];exact (LW.setCell (by show w.heap.size<=w.heap.size+1;omega) _).setCell (by show w.heap.size<=w.heap.size+1;omega) _
    have hF:=htr.sm (w':=wz) ⟨by omega,fun b hb=>hfar b (fun e=>by have:=(htr.bnd b hb).1;omega)⟩
    have HF:Hid (TsR false w.heap.size wz (.slice a us.length cc) us S vm vl):=⟨Zew hF.row (by omega),hF.webs,hF.off,hF.apart,hF.four,fun j b hj hb=>by have:=hF.low j b hj hb;omega⟩
    have HLE:=Za LE
    have HWZ:=Za hwz
    have hki:¬((us.length:Int)<(us.length:Int)):=by omega
    clear htr hto K LW LX p1 p2 hfar hsz LE hF hwz HTO HTR HK HLW HUS HLX hus hul
    go_wp2_with fail
    refine bodyPost_ret (v:=.agg #[.int .i64 d,.slice a us.length cc]) (by simp [results,Tryz.results196,go_sem,r0,r1]) rfl ?_
    rw [HWZ.out]
    exact⟨_,rfl,⟨S,vm,vl,HF.out⟩,HLE.out⟩
def Zhp(m:Mk)(x:Wb):Wb:=(x.1++[m],Zcx x.1 x.2 (ZbS x.1 m.2 3) m.1)
def ZdM(m:Mk)(ts:List Wb):Nat->List Wb
 | 0=>ts
 | k+1=>(ZdM m ts k).set k (Zhp m (Zl ts k))
def Zec(m:Mk)(ts:List Wb):Nat->Bool
 | 0=>true
 | k+1=>Zec m ts k && Zn ((Zl ts k).1++[m])
theorem Zbn(m:Mk)(ts:List Wb):∀k,(ZdM m ts k).length=ts.length
 | 0=>rfl
 | k+1=>by rw [ZdM,List.length_set,Zbn m ts k]
theorem Zjr{m:Mk}{ts:List Wb}{k n:Nat}(h:Zn ((Zl ts k).1++[m])=false)(hk:k<n):Zec m ts n=false:=by
 induction n with
 | zero=>omega
 | succ n ih=>
   unfold Zec
   rcases Nat.lt_or_ge k n with h1 | h1
   · rw [ih h1];rfl
   · obtain rfl:k=n:=by omega
     rw [h];simp
theorem Zhq{m:Mk}{ts:List Wb}{k:Nat}(h1:Zec m ts k=true)(h:Zn ((Zl ts k).1++[m])=true):Zec m ts (k+1)=true:=by
 unfold Zec;rw [h1,h];rfl
theorem ZdH{ts:List Wb}{k:Nat}(x:Wb)(hk:k<ts.length)(i:Nat):Zl (ts.set k x) i=if i=k then x else Zl ts i:=by
 unfold Zl
 rw [List.getD_eq_getElem?_getD,List.getD_eq_getElem?_getD,List.getElem?_set]
 by_cases e:i=k
 · subst e;simp [hk]
 · rw [if_neg (fun h=>e h.symm),if_neg e]
theorem ZdN(m:Mk)(ts:List Wb):∀k,k<=ts.length->∀i,Zl (ZdM m ts k) i=if i<k then Zhp m (Zl ts i) else Zl ts i
 | 0,_,i=>by rw [ZdM,if_neg (by omega)]
 | k+1,hk,i=>by
   rw [ZdM,ZdH _ (by rw [Zbn];omega),ZdN m ts k (by omega) i]
   by_cases e:i=k
   · rw [if_pos e,if_pos (by omega),e]
   · rw [if_neg e]
     by_cases e2:i<k
     · rw [if_pos e2,if_pos (by omega)]
     · rw [if_neg e2,if_neg (by omega)]
theorem Zg1(vm vl:Nat->Value)(n k:Nat)(xm xl:Value):((ZbK vm vl n).set (k*2) xm).set (k*2+1) xl=ZbK (ZaX vm k xm) (ZaX vl k xl) n:=by
 refine List.ext_getElem (by simp [ZbK]) (fun j h1 h2=>?_)
 have e1:(ZbK (ZaX vm k xm) (ZaX vl k xl) n)[j]=Za1 (ZaX vm k xm) (ZaX vl k xl) j:=by simp [ZbK]
 rw [e1,List.getElem_set,List.getElem_set]
 have e2:∀h,(ZbK vm vl n)[j]'h=Za1 vm vl j:=fun h=>by simp [ZbK]
 unfold Za1 ZaX
 by_cases a:k*2+1=j
 · rw [if_pos a,if_neg (by omega),if_pos (by omega)]
 · rw [if_neg a]
   by_cases b:k*2=j
   · rw [if_pos b,if_pos (by omega),if_pos (by omega)]
   · rw [if_neg b,e2]
     unfold Za1
     by_cases c:j % 2=0
     · rw [if_pos c,if_pos c,if_neg (by omega)]
     · rw [if_neg c,if_neg c,if_neg (by omega)]
theorem TsR.lowm{o:Bool}{base base':Nat}{w:World}{v:Value}{ts:List Wb}{S:Nat->Nat->Prop}{vm vl:Nat->Value}(h:TsR o base w v ts S vm vl)(hb:base'<=base):TsR o base' w v ts S vm vl:=
 ⟨⟨h.row.1,h.row.2.imp id fun ⟨g,cap,cur,h1,h2,h3⟩=>⟨g,cap,cur,h1,Nat.le_trans hb h2,h3⟩⟩,h.webs,h.off,h.apart,h.four,fun i b hi hs=>Nat.le_trans hb (h.low i b hi hs)⟩
theorem TsR.nonil{o:Bool}{base:Nat}{w:World}{v:Value}{ts:List Wb}{S:Nat->Nat->Prop}{vm vl:Nat->Value}(h:TsR o base w v ts S vm vl)(hn:0<ts.length):∃g c,v=.slice (some ⟨g,0,none⟩) ts.length c/\base<=g/\g<w.heap.size/\ts.length<=c/\∀i,i<ts.length->w.cell? ⟨g,i*2,none⟩=some (vm i)/\w.cell? ⟨g,i*2+1,none⟩=some (vl i)/\(∀j,w.frozen? ⟨g,j,none⟩=false):=by
 obtain⟨h1,⟨rfl,h2⟩ | ⟨g,cap,cur,rfl,hb',hg,hc,h3⟩⟩:=h.row
 · omega
 · have hr:=h.row
   refine⟨g,cap,rfl,hb',(World.ownsRow.lt hr g rfl).2,hc,fun i hi=>?_⟩
   have c0:=World.ownsRow.cellAt hr (i*2) (by omega)
   have c1:=World.ownsRow.cellAt hr (i*2+1) (by omega)
   rw [ZgC (by omega)] at c0 c1
   have a0:Za1 vm vl (i*2)=vm i:=by unfold Za1;rw [if_pos (by omega),show i*2 / 2=i by omega]
   have a1:Za1 vm vl (i*2+1)=vl i:=by unfold Za1;rw [if_neg (by omega),show (i*2+1) / 2=i by omega]
   rw [a0] at c0
   rw [a1] at c1
   exact⟨c0,c1,fun j=>by simp [World.frozen?,hg]⟩
theorem TsR.put{o:Bool}{base g c:Nat}{w w':World}{ts:List Wb}{S:Nat->Nat->Prop}{vm vl:Nat->Value}(h:TsR o base w (.slice (some ⟨g,0,none⟩) ts.length c) ts S vm vl)(L:Below w.heap.size w w'){k:Nat}(hk:k<ts.length){F:Nat->Prop}{xm xl:Value}{t:Wb}(hw:OwW o F w' xm xl t.1 t.2)(hF:∀b,F b->w.heap.size<=b)(hbs:base<=w.heap.size):
 TsR o base ((w'.setCell ⟨g,k*2,none⟩ xm).setCell ⟨g,k*2+1,none⟩ xl) (.slice (some ⟨g,0,none⟩) ts.length c) (ts.set k t) (ZbO S k F) (ZaX vm k xm) (ZaX vl k xl):=by
 have hg:=(h.bnd g (Or.inl rfl)).2
 have h':=h.next L
 have far:∀b,b≠g->((w'.setCell ⟨g,k*2,none⟩ xm).setCell ⟨g,k*2+1,none⟩ xl).heap[b]? =w'.heap[b]? :=fun b hb=>(Below.heap_setCell _ ⟨g,k*2+1,none⟩ xl b (fun e=>hb e)).trans (Below.heap_setCell _ ⟨g,k*2,none⟩ xm b (fun e=>hb e))
 have sz:w'.heap.size<=((w'.setCell ⟨g,k*2,none⟩ xm).setCell ⟨g,k*2+1,none⟩ xl).heap.size:=by rw [Zb,Zb];exact Nat.le_refl _
 have hl:(ts.set k t).length=ts.length:=List.length_set ..
 refine⟨?_,fun i hi=>?_,fun i hi q e=>?_,fun i j hi hj hne b=>?_,by rw [hl];exact h.four,fun i b hi hs=>?_⟩
 · have r1:=(World.ownsRow.stored h'.row (k*2) xm).1
   have r2:=(World.ownsRow.stored r1 (k*2+1) xl).1
   rw [Zg1] at r2
   rw [hl]
   exact r2
 · rw [hl] at hi
   rw [ZdH t hk]
   unfold ZbO ZaX
   by_cases e:i=k
   · rw [if_pos e,if_pos e,if_pos e,if_pos e]
     exact hw.sm ⟨sz,fun b hb=>far b (fun eq=>by have:=hF b hb;omega)⟩
   · rw [if_neg e,if_neg e,if_neg e,if_neg e]
     exact (h'.webs i hi).sm ⟨sz,fun b hb=>far b (fun eq=>h.off i hi g rfl (eq ▸ hb))⟩
 · rw [hl] at hi
   injection e with e
   subst e
   unfold ZbO
   by_cases e:i=k
   · rw [if_pos e]
     exact fun hb=>by have hx:w.heap.size<=g:=hF _ hb;omega
   · rw [if_neg e]
     exact h.off i hi _ rfl
 · rw [hl] at hi hj
   unfold ZbO
   by_cases e:i=k
   · rw [if_pos e,if_neg (by omega)]
     exact fun hb hb'=>by have:=hF b hb;have:=(h.webs j hj).bnd b hb';omega
   · rw [if_neg e]
     by_cases e':j=k
     · rw [if_pos e']
       exact fun hb hb'=>by have:=hF b hb';have:=(h.webs i hi).bnd b hb;omega
     · rw [if_neg e']
       exact h.apart i j hi hj hne b
 · rw [hl] at hi
   unfold ZbO at hs
   by_cases e:i=k
   · rw [if_pos e] at hs;have:=hF b hs;omega
   · rw [if_neg e] at hs;exact h.low i b hi hs
theorem Zez{base base':Nat}{w:World}{g c:Nat}{ds:List Dm}(h:ZL base w g c ds)(hb:base'<=base):ZL base' w g c ds:=
 have ow:∀{e:TypeId} {size n:Nat} {v:Value} {xs:List Value},w.ownsRow base e size v n xs->w.ownsRow base' e size v n xs:=fun h=>⟨h.1,h.2.imp id fun ⟨g,cap,cur,h1,h2,h3⟩=>⟨g,cap,cur,h1,Nat.le_trans hb h2,h3⟩⟩
 ⟨ow h.1,fun d hd=>⟨ow (h.2.1 d hd).1,(h.2.1 d hd).2⟩,h.2.2⟩
def LnkC(o:Bool)(f:Nat):Prop:=∀(am al at':Option Addr) (cm cl ct:Nat) (x:Wb) (m:Mk) (w:World),Zq w am x.1->Z8 w al x.2->Zs w at' m.2->m.2.length<=1048576->x.1.length<=cm->x.2.length<=cl->ZX x.1->ZaZ x.2->Zab x.1 x.2=true->
 Calls Tryz.prog f #[.agg #[.slice am x.1.length cm,.slice al x.2.length cl],.agg #[.int .i64 m.1,.slice at' m.2.length ct],.int .i64 3] w fun e w'=>∃(a1:Option Addr) (l1 c1:Nat) (a2:Option Addr) (l2 c2:Nat) (F:Nat->Prop),e=.returned (.tuple #[.agg #[.slice a1 l1 c1,.slice a2 l2 c2],.bool (Zn (x.1++[m]))])/\(Zn (x.1++[m])=true->OwW o F w' (.slice a1 l1 c1) (.slice a2 l2 c2) (Zhp m x).1 (Zhp m x).2)/\(∀b,F b->w.heap.size<=b/\b<w'.heap.size)/\Below w.heap.size w w'
theorem sLnkC:LnkC false 197:=by
 intro am al at' cm cl ct x m w hm hl ha hal _ _ _ _ hw
 refine (Zlb am al at' cm cl ct x.1 x.2 m 3 w hm hl ha hal hw).mono ?_
 rintro e w' (⟨hb,rfl,L⟩ | ⟨hb,gm,cm',gl,cl',rfl,ho,L⟩)
 · rw [hb]
   exact⟨_,_,_,_,_,_,fun _=>False,rfl,(by intro h;cases h),(fun b h=>h.elim),L⟩
 · rw [hb]
   refine⟨_,_,_,_,_,_,Btw w.heap.size w'.heap.size,rfl,fun _=>?_,fun b h=>h,L⟩
   obtain⟨B,ds,B',rs,h1,h2,hd,hdm,hlm,hnr,-⟩:=ho
   have hrl:rs.length=x.2.length+1:=by
    have h1:(ZaJ rs).length=rs.length:=Za0 rs
    rw [hnr,ZcM] at h1
    rw [Za5 hw];exact h1.symm
   have hr:=Zjq (base:=w.heap.size) (Zez hd h1) hdm (Or.inr ⟨gl,cl',rfl,hlm⟩) hnr h2
   rw [hrl] at hr
   rw [List.length_append,List.length_singleton] at hr
   exact hr
theorem iLnkC:LnkC true 104:=by
 intro am al at' cm cl ct x m w hm hl ha hal hcm hcl hsm hcs hw
 refine (ZmN am al at' cm cl ct x.1 x.2 m 3 w hm hl hsm hcs hcm hcl ha hal).mono ?_
 rintro e w' ⟨v,rfl,ho,L⟩
 have hlb:ZaL x.1 x.2 m 3=Zn (x.1++[m]):=by unfold ZaL;rw [hw];simp [ZfY]
 rw [hlb]
 rcases ho with ⟨hb,rfl⟩ | ⟨hb,g,gl,rfl,ho⟩
 · rw [hlb] at hb
   rw [hb]
   exact⟨_,_,_,_,_,_,fun _=>False,rfl,(by intro h;cases h),(fun b h=>h.elim),L⟩
 · refine⟨_,_,_,_,_,_,Btw w.heap.size w'.heap.size,rfl,fun hmb=>?_,fun b h=>h,L⟩
   rw [hlb] at hb
   have hll:(Zcx x.1 x.2 (ZbS x.1 m.2 3) m.1).length=x.1.length+1:=ZcM ..
   have hwb:Zab (x.1++[m]) (Zcx x.1 x.2 (ZbS x.1 m.2 3) m.1)=true:=Zdq hw hb (Zb4 (ZJ hw))
   obtain⟨-,-,h60,hx60⟩:=ZaR hwb
   have hr:=Zed.ow (ls:=Zcx x.1 x.2 (ZbS x.1 m.2 3) m.1) (by rw [hll];exact ho) hb (by rw [hll,List.length_append,List.length_singleton]) (by omega) (fun i=>by have:=hx60 i;omega)
   rw [hll,List.length_append,List.length_singleton] at hr
   exact hr
def Zdg(d:Int):Nat:=(Zhr (Zad d)).toNat+1
def Zb2(m:Mk)(ts:List Wb)(d:Int):Bool:=Zec m ts (Zdg d)
def Zcg(m:Mk)(ts:List Wb)(d:Int):Int:=if Zb2 m ts d=true then Zad d else d
def ZaI(m:Mk)(ts:List Wb)(d:Int):List Wb:=if Zb2 m ts d=true then ZdM m ts (Zdg d) else ts
theorem Zda{d:Int}(h:inR d 0 1000002=true):Zhr (Zad d)=((Zdg d:Nat):Int)-1/\1<=Zdg d/\Zdg d<=4:=by
 have hr:inR (Zad d) 0 1000002=true:=by have:=ZgD h;simp [inR];omega
 have h1:=ZgE hr
 have h3:=ZmO 3 (Zad d)
 unfold Zdg
 rw [h1]
 omega
theorem Zdw{d:Int}{ts:List Wb}(h:ZZ d ts=true):inR d 0 1000002=true:=by
 unfold ZZ at h;rw [Bool.and_eq_true] at h;exact h.1
theorem ZeT(aw at':Option Addr)(cw ct:Nat)(d:Int)(ts:List Wb)(m:Mk)(w:World)(hv:Zz true w aw ts)(ha:Zs w at' m.2)(hal:m.2.length<=1048576)(hok:ZZ d ts=true)(hsm:ZaB ts):
 Calls Tryz.prog 110 #[.agg #[.int .i64 d,.slice aw ts.length cw],.agg #[.int .i64 m.1,.slice at' m.2.length ct]] w fun e w'=>∃vt,e=.returned (.tuple #[.agg #[.int .i64 (Zcg m ts d),vt],.bool (Zb2 m ts d)])/\ZdG w.heap.size w' vt (ZaI m ts d)/\Below w.heap.size w w':=by
 obtain⟨W1,hW1⟩:∃W,w.alloc (.cells #[.int .i64 d,.slice aw ts.length cw] 26)=W:=⟨_,rfl⟩
 obtain⟨W2,hW2⟩:∃W,W1.alloc (.cells #[.int .i64 m.1,.slice at' m.2.length ct] 29)=W:=⟨_,rfl⟩
 obtain⟨W,hW⟩:∃W,W2.alloc (.cells #[.int .i64 0,.slice none 0 0] 26)=W:=⟨_,rfl⟩
 have s1:W1.heap.size=w.heap.size+1:=by rw [<-hW1];simp
 have s2:W2.heap.size=w.heap.size+1+1:=by rw [<-hW2];simp [s1]
 have s3:W.heap.size=w.heap.size+1+1+1:=by rw [<-hW];simp [s2]
 have b1:Below w.heap.size w W1:=by rw [<-hW1];exact (Below.refl _ _).alloc (Nat.le_refl _) _
 have b2:Below W1.heap.size W1 W2:=by rw [<-hW2];exact (Below.refl _ _).alloc (Nat.le_refl _) _
 have b3:Below W2.heap.size W2 W:=by rw [<-hW];exact (Below.refl _ _).alloc (Nat.le_refl _) _
 have t0:Two W w.heap.size (.int .i64 d) (.slice aw ts.length cw) 26:=by
  have:Two W1 w.heap.size (.int .i64 d) (.slice aw ts.length cw) 26:=by rw [<-hW1];exact Two.new w _ _ _
  exact (this.below b2).below b3
 have t1:Two W (w.heap.size+1) (.int .i64 m.1) (.slice at' m.2.length ct) 29:=by
  have:Two W2 (w.heap.size+1) (.int .i64 m.1) (.slice at' m.2.length ct) 29:=by rw [<-hW2,<-s1];exact Two.new W1 _ _ _
  exact this.below b3
 have t2:Two W (w.heap.size+1+1) (.int .i64 0) (.slice none 0 0) 26:=by rw [<-hW,<-s2];exact Two.new W2 _ _ _
 have hB:=Zd (Zd b1 b2) b3
 have HB:=Za hB
 have HV:=Za (fun W' (L:Below W.heap.size W W')=>hv.next (Zd hB L))
 have HM:=Za (fun W' (L:Below W.heap.size W W')=>(ha.below (Nat.le_refl _) hB).below (Nat.le_refl _) L)
 have HT0:=Za t0
 have HT1:=Za t1
 have HT2:=Za t2
 have HSZ:=Za s3
 have HOK:=Za (And.intro hok (And.intro hsm hal))
 obtain⟨hlv,hn1,hn4⟩:=Zda (Zdw hok)
 have H4:Hid (ts.length=4):=(ZaW hok).1
 have HLV:=Za hlv
 have HCY:=Za (fun W' (L:Below W.heap.size W W')=>Zlt true aw cw d ts W' (hv.next (Zd hB L)) hok)
 have k0:=t0.c0
 have k1:=t0.c1
 have HWW:Hid (((w.alloc (.cells #[.int .i64 d,.slice aw ts.length cw] 26)).alloc (.cells #[.int .i64 m.1,.slice at' m.2.length ct] 29)).alloc (.cells #[.int .i64 0,.slice none 0 0] 26)=W):=by show _=_;rw [hW1,hW2,hW]
 obtain⟨N,hN⟩:∃N,Zdg d=N:=⟨_,rfl⟩
 have HN:=Za hN
 rw [hN] at hlv hn1 hn4 HLV
 clear hv ha hok hsm hal hB b1 b2 b3 t0 t1 t2 s1 s2 s3 hW hW1 hW2 hN hlv
 go_enter Tryz.func110,Tryz.ntmps110
 go_upto_region 1 with fail
 rw [HWW.out]
 clear HWW
 go_wp2_with fail
 refine (HCY.out W (Below.refl _ _)).mono ?_
 rintro e w1 ⟨vt,rfl,⟨S0,vm0,vl0,ht⟩,L1⟩
 clear k0 k1
 obtain⟨g,c,rfl,hg1,hg2,hgc,-⟩:=ht.nonil (by have:=H4.out;omega)
 have hS0:∀i b,i<ts.length->S0 i b->b<w1.heap.size:=fun i b hi hb=>(ht.webs i hi).bnd b hb
 obtain⟨w2,hw2⟩:∃w2,w1.alloc (.cells #[.int .i64 d,.slice (some ⟨g,0,none⟩) ts.length c] 26)=w2:=⟨_,rfl⟩
 have L2:Below w1.heap.size w1 w2:=by rw [<-hw2];exact (Below.refl _ _).alloc (Nat.le_refl _) _
 have tO:Two w2 w1.heap.size (.int .i64 d) (.slice (some ⟨g,0,none⟩) ts.length c) 26:=by rw [<-hw2];exact Two.new w1 _ _ _
 obtain⟨O,hO⟩:∃O,w1.heap.size=O:=⟨_,rfl⟩
 have hWO:W.heap.size<=O:=by have:=L1.size;omega
 have HL2:=Za (Zd L1 L2)
 have HTS:=Za (ht.next L2)
 have HQ2:=Za hw2
 rw [hO] at tO hS0 hg2
 have HTO:=Za tO
 have HS0:Hid ((∀i b,i<ts.length->S0 i b->b≠O)/\g≠O):=⟨fun i b hi hb=>by have:=hS0 i b hi hb;omega,by omega⟩
 have k0:=(HT0.out.below HL2.out).c0
 have o0:=tO.c0
 have of0:=tO.frozen 0
 have HRL:=Za (ZmP d w2)
 clear ht L1 L2 hw2 hS0 tO
 go_upto_region 2 with fail
 first | rw [HQ2.out] | skip
 first | rw [hO] | skip
 clear HQ2
 go_wp2_with fail
 refine HRL.out.mono ?_
 rintro e w3' ⟨rfl,hw3e⟩
 subst hw3e
 obtain⟨w3,hw3⟩:∃w3,w3'.setCell ⟨O,0,none⟩ (.int .i64 (Zad d))=w3:=⟨_,rfl⟩
 have HTO3:Hid (Two w3 O (.int .i64 (Zad d)) (.slice (some ⟨g,0,none⟩) ts.length c) 26):=by show Two _ _ _ _ _;rw [<-hw3];exact HTO.out.set0 _
 have HL3:Hid (Below W.heap.size W w3):=by show Below _ _ _;rw [<-hw3];exact HL2.out.setCell (by show W.heap.size<=O;exact hWO) _
 have HTS3:Hid (TsR false W.heap.size w3 (.slice (some ⟨g,0,none⟩) ts.length c) ts S0 vm0 vl0):=HTS.out.sm (by
  rw [<-hw3]
  refine⟨by rw [Zb];exact Nat.le_refl _,fun b hb=>Below.heap_setCell _ ⟨O,0,none⟩ _ b (fun e=>?_)⟩
  have e':b=O:=e
  rcases hb with hb | ⟨i,hi,hb⟩
  · injection hb with hb;exact HS0.out.2 (hb.trans e')
  · exact HS0.out.1 i b hi hb e')
 clear k0 hO
 go_wp2_with fail
 first | rw [hw3] | skip
 clear hw3 HTO HL2 HTS HRL o0 of0
 clear w3'
 go_loopg [7] N (fun gk iv wr=>∃(k:Nat) (S:Nat->Nat->Prop) (vm vl:Nat->Value),k<=N/\N-k<=gk/\iv=.int .i64 k/\Zec m ts k=true/\TsR false W.heap.size wr (.slice (some ⟨g,0,none⟩) ts.length c) (ZdM m ts k) S vm vl/\(∀i b,i<ts.length->S i b->b≠O)/\Two wr O (.int .i64 (Zad d)) (.slice (some ⟨g,0,none⟩) ts.length c) 26/\Below W.heap.size W wr)
 case atStart=>exact⟨0,_,_,_,Nat.zero_le _,Nat.sub_le _ _,rfl,rfl,HTS3.out,HS0.out.1,HTO3.out,HL3.out⟩
 case round=>
  obtain⟨k,S,vm,vl,hk,hgk,rfl,hrb,hp,hsb,hto,L⟩:=hrel
  have hx0:=hto.c0
  have HLE:=Za (Zn8 (Zad d) wr)
  rw [HLV.out] at HLE
  have HP:=Za hp
  have HT:=Za hto
  have HL:=Za L
  have HSB:=Za hsb
  have HRB:=Za hrb
  clear hp hto L hsb hrb
  by_cases hlt:k<N
  · have hcond:((k:Int)<=(N:Int)-1):=by omega
    go_wp2_with fail
    refine HLE.out.mono ?_
    rintro e wo ⟨rfl,hwo⟩
    subst hwo
    have hVr:=HV.out wo HL.out
    have hkt:k<ts.length:=by have:=H4.out;omega
    obtain⟨wb,wof,am,cm,al,cl,rfl,hwb,c0,c1,hmv,hcv,hcap⟩:=hVr.web hkt
    have hweb:=Zcd HOK.out.1 (n:=k) (by omega)
    have BLo:=Za ((Below.refl wo.heap.size wo).drew)
    have HCo:=Za (fun W' (L':Below wo.heap.size wo W')=>sLnkC am al at' cm cl ct (Zl ts k) m W' (hmv.next L') (hcv.next L') (HM.out W' (Zd HL.out L')) HOK.out.2.2 (hcap rfl).1 (hcap rfl).2 (HOK.out.2.1.2 k).1 (HOK.out.2.1.2 k).2 hweb)
    have hB0l:=(HT0.out.below HL.out).lt
    have hB1l:=(HT1.out.below HL.out).lt
    have HSo:Hid (∀W',Below wo.heap.size wo W'->W'.cell? ⟨w.heap.size,1,none⟩=some (.slice (some ⟨wb,wof,none⟩) ts.length cw)/\W'.cell? ⟨wb,wof+k*2,none⟩=some (.slice am (Zl ts k).1.length cm)/\W'.cell? ⟨wb,wof+k*2+1,none⟩=some (.slice al (Zl ts k).2.length cl)/\W'.cell? ⟨w.heap.size+1,0,none⟩=some (.int .i64 m.1)/\W'.cell? ⟨w.heap.size+1,1,none⟩=some (.slice at' m.2.length ct)/\(0:Int)<=(k:Int)/\(k:Int)<(ts.length:Int)):=fun W' L'=>⟨((HT0.out.below HL.out).below L').c1,(L'.cell (p:=⟨wb,wof+k*2,none⟩) hwb).trans c0,(L'.cell (p:=⟨wb,wof+k*2+1,none⟩) hwb).trans c1,((HT1.out.below HL.out).below L').c0,((HT1.out.below HL.out).below L').c1,Int.natCast_nonneg _,by omega⟩
    obtain⟨ml,hml⟩:∃ml,(Zl ts k).1.length=ml:=⟨_,rfl⟩
    obtain⟨ll,hll⟩:∃ll,(Zl ts k).2.length=ll:=⟨_,rfl⟩
    rw [hml,hll] at HCo HSo
    clear hVr hmv hcv c0 c1 hcap hweb hx0 hml hll hwb
    go_wp2_with fail
    go_cut [8,9] from 16 to 41 (fun v b wx=>∃X a1 l1 c1 a2 l2 c2 F,v=.pointer (some ⟨X,0,none⟩)/\b=.bool (Zn ((Zl ts k).1++[m]))/\Two wx X (.slice a1 l1 c1) (.slice a2 l2 c2) 47/\(Zn ((Zl ts k).1++[m])=true->OwW false F wx (.slice a1 l1 c1) (.slice a2 l2 c2) (Zhp m (Zl ts k)).1 (Zhp m (Zl ts k)).2)/\(∀b,F b->wo.heap.size<=b)/\wo.heap.size<=X/\Below wo.heap.size wo wx)
    case first=>
     refine Zt (S:=fun W'=>Below wo.heap.size wo W') (fuel:=7) [0,1,2,3,4,5] (by kernel_rfl) (by kernel_rfl) (by kernel_rfl) (by kernel_rfl) BLo.out (fun _=>?_)
     iterate 6 (refine⟨_,rfl,?_⟩;apply Exists.intro;refine⟨Or.inl ⟨by rfl,fun w' hw'=>?_⟩,?_⟩;(focus (obtain⟨e1,e2,e3,e4,e5,e6⟩:=HSo.out w' hw';first | (go_simp;done) | (go_simp;with_reducible rfl)));simp only [Act.put,List.getElem_toArray,List.getElem_cons_succ,List.getElem_cons_zero,List.setIfInBounds_toArray,List.set_cons_zero,List.set_cons_succ])
     obtain⟨wv0,hv0⟩:∃w0,wo.drew=w0:=⟨_,rfl⟩
     have B0:Below wo.heap.size wo wv0:=by rw [<-hv0];exact BLo.out
     have s0:wo.heap.size<=wv0.heap.size:=B0.size
     rw [hv0]
     clear hv0
     refine ZD 6 10 (by kernel_rfl) rfl rfl (fun K hK=>?_) (fun K hK=>?_)
     · go_simp
       refine (HCo.out wv0 B0).mono ?_
       rintro e w2 ⟨a1,l1,c1,a2,l2,c2,F,rfl,how,hF,L2⟩
       have LA:=Zd B0 L2
       refine hK.out _ _ LA (fun hS4=>?_)
       clear hK K
       refine Zo 3 [7,8,9] (by kernel_rfl) (by kernel_rfl) (by kernel_rfl) hS4 ?_
       iterate 3 (refine⟨_,rfl,?_⟩;apply Exists.intro;refine⟨Or.inl ⟨by rfl,fun w' hw'=>?_⟩,?_⟩;(focus (first | (go_simp;done) | (go_simp;with_reducible rfl)));simp only [Act.put,List.getElem_toArray,List.getElem_cons_succ,List.getElem_cons_zero,List.setIfInBounds_toArray,List.set_cons_zero,List.set_cons_succ])
       refine Zc 10 (by kernel_rfl) rfl (fun K hK=>?_)
       go_simp
       refine hK.out _ _ (LA.alloc LA.size _) (fun _=>?_)
       clear hK K
       refine Zc 11 (by kernel_rfl) rfl (fun K hK=>?_)
       go_simp
       obtain⟨wz,hwz⟩:∃wz,w2.alloc (.cells #[(.slice a1 l1 c1),(.slice a2 l2 c2)] 47)=wz:=⟨_,rfl⟩
       have LZ:Below w2.heap.size w2 wz:=by rw [<-hwz];exact (Below.refl _ _).alloc (Nat.le_refl _) _
       have HLZ:=Za (Zd LA LZ)
       have HTZ:Hid (Two wz w2.heap.size (.slice a1 l1 c1) (.slice a2 l2 c2) 47):=by show Two _ _ _ _ _;rw [<-hwz];exact Two.new w2 _ _ _
       have HOZ:=Za (fun h=>(how h).next LZ)
       have HFZ:Hid ((∀b,F b->wo.heap.size<=b)/\wo.heap.size<=w2.heap.size):=⟨fun b hb=>by have:=(hF b hb).1;omega,LA.size⟩
       rw [hwz]
       refine hK.out _ _ HLZ.out (fun hS9=>?_)
       clear hK K hwz how hF LA L2 LZ
       refine ZB [12] rfl (by kernel_rfl) (by kernel_rfl) (by kernel_rfl) hS9 ?_
       iterate 1 (refine⟨_,rfl,?_⟩;apply Exists.intro;refine⟨Or.inl ⟨by rfl,fun w' hw'=>?_⟩,?_⟩;(focus (first | (go_simp;done) | (go_simp;with_reducible rfl)));simp only [Act.put,List.getElem_toArray,List.getElem_cons_succ,List.getElem_cons_zero,List.setIfInBounds_toArray,List.set_cons_zero,List.set_cons_succ])
       refine NoPanic.normal (NoPanic.normal ?_)
       go_wp2_with fail
       go_meet
       exact⟨_,a1,l1,c1,a2,l2,c2,F,rfl,rfl,HTZ.out,HOZ.out,HFZ.out.1,HFZ.out.2,HLZ.out⟩
     · go_simp
       obtain⟨Wx,hWx⟩:∃W',wv0.alloc (.cells #[.slice none 0 0,.slice none 0 0] 47)=W':=⟨_,rfl⟩
       obtain⟨Xb,hXb⟩:∃q,wv0.heap.size=q:=⟨_,rfl⟩
       have LX:Below wo.heap.size wo Wx:=by rw [<-hWx];exact B0.alloc s0 _
       have hTX:Two Wx Xb (.slice none 0 0) (.slice none 0 0) 47:=by rw [<-hWx,<-hXb];exact Two.new wv0 _ _ _
       have hXo:wo.heap.size<=Xb:=by omega
       have hXl:=hTX.lt
       first | rw [hWx] | skip
       first | rw [hXb] | skip
       refine hK.out _ _ LX (fun _=>?_)
       clear hK K hWx
       refine Zc 6 (by kernel_rfl) rfl (fun K hK=>?_)
       go_simp
       refine (HCo.out Wx LX).mono ?_
       rintro e w2 ⟨a1,l1,c1,a2,l2,c2,F,rfl,how,hF,L2⟩
       have LA:=Zd LX L2
       have hT4:=hTX.below L2
       refine hK.out _ _ LA (fun hS4=>?_)
       clear hK K
       refine Zo 2 [7,8,9] (by kernel_rfl) (by kernel_rfl) (by kernel_rfl) hS4 ?_
       iterate 3 (refine⟨_,rfl,?_⟩;apply Exists.intro;refine⟨Or.inl ⟨by rfl,fun w' hw'=>?_⟩,?_⟩;(focus (first | (go_simp;done) | (go_simp;with_reducible rfl)));simp only [Act.put,List.getElem_toArray,List.getElem_cons_succ,List.getElem_cons_zero,List.setIfInBounds_toArray,List.set_cons_zero,List.set_cons_succ])
       have x0:=hT4.c0
       have x1:=hT4.c1
       have xf0:=hT4.frozen 0
       have xf1:=hT4.frozen 1
       refine Zc 11 (by kernel_rfl) rfl (fun K hK=>?_)
       go_simp
       have HLZ:=Za ((LA.setCell (by show wo.heap.size<=Xb;exact hXo) (.slice a1 l1 c1):Below wo.heap.size wo (w2.setCell ⟨Xb,0,none⟩ (.slice a1 l1 c1))).setCell (by show wo.heap.size<=Xb;exact hXo) (.slice a2 l2 c2):Below wo.heap.size wo ((w2.setCell ⟨Xb,0,none⟩ (.slice a1 l1 c1)).setCell ⟨Xb,1,none⟩ (.slice a2 l2 c2)))
       have HTZ:=Za ((hT4.set0 (.slice a1 l1 c1)).set1 (.slice a2 l2 c2))
       have HOZ:=Za (fun h=>(how h).sm (w':=(w2.setCell ⟨Xb,0,none⟩ (.slice a1 l1 c1)).setCell ⟨Xb,1,none⟩ (.slice a2 l2 c2)) ⟨by rw [Zb,Zb];exact Nat.le_refl _,fun b hb=>(Below.heap_setCell _ ⟨Xb,1,none⟩ _ b (fun e=>by have e':b=Xb:=e;have:=(hF b hb).1;omega)).trans (Below.heap_setCell _ ⟨Xb,0,none⟩ _ b (fun e=>by have e':b=Xb:=e;have:=(hF b hb).1;omega))⟩)
       have HFZ:Hid (∀b,F b->wo.heap.size<=b):=fun b hb=>by have:=(hF b hb).1;omega
       clear how hF
       generalize (w2.setCell ⟨Xb,0,none⟩ (.slice a1 l1 c1)).setCell ⟨Xb,1,none⟩ (.slice a2 l2 c2)=wz at *
       refine hK.out _ _ HLZ.out (fun hS9=>?_)
       clear hK K x0 x1 xf0 xf1 LA L2 hT4
       refine ZB [12] rfl (by kernel_rfl) (by kernel_rfl) (by kernel_rfl) hS9 ?_
       iterate 1 (refine⟨_,rfl,?_⟩;apply Exists.intro;refine⟨Or.inl ⟨by rfl,fun w' hw'=>?_⟩,?_⟩;(focus (first | (go_simp;done) | (go_simp;with_reducible rfl)));simp only [Act.put,List.getElem_toArray,List.getElem_cons_succ,List.getElem_cons_zero,List.setIfInBounds_toArray,List.set_cons_zero,List.set_cons_succ])
       refine NoPanic.normal (NoPanic.normal ?_)
       go_wp2_with fail
       go_meet
       exact⟨Xb,a1,l1,c1,a2,l2,c2,F,rfl,rfl,HTZ.out,HOZ.out,HFZ.out,hXo,HLZ.out⟩
    case rest=>
     obtain⟨X,a1,l1,c1,a2,l2,c2,F,rfl,rfl,hTX,hOW,hFX,hXW,LW⟩:=hcut
     generalize hwc:wc=w5 at *
     clear hwc wc HCo HSo BLo HLE
     have HL5:=Za (Zd HL.out LW)
     have HP5:=Za (HP.out.next LW)
     have HT5:=Za (HT.out.below LW)
     rcases hmb:Zn ((Zl ts k).1++[m]) with _ | _
     · have t05:=HT0.out.below HL5.out
       have k0:=t05.c0
       have k1:=t05.c1
       have HCY5:=Za (HCY.out w5 HL5.out)
       have HNO:Hid (Zb2 m ts d=false):=Zjr hmb (by rw [HN.out];exact hlt)
       clear hOW hTX t05
       go_wp2_with fail
       refine HCY5.out.mono ?_
       rintro e w6 ⟨vt,rfl,hcp,L6⟩
       obtain⟨va,vc,rfl⟩:∃va vc,vt=.slice va ts.length vc:=by obtain⟨_,_,_,h⟩:=hcp;obtain⟨a,c,e,-⟩:=h.form;exact⟨a,c,e⟩
       have t26:=HT2.out.below (Zd HL5.out L6)
       have r0:=t26.c0
       have r1:=t26.c1
       have rf0:=t26.frozen 0
       have rf1:=t26.frozen 1
       have t27:=(t26.set0 (.int .i64 d)).set1 (.slice va ts.length vc)
       have q0:=t27.c0
       have q1:=t27.c1
       obtain⟨S1,vm1,vl1,hts1⟩:=hcp
       have hz5:=HL5.out.size
       have hsz:=HSZ.out
       have HTF:=Za ((hts1.sm (w':=(w6.setCell ⟨w.heap.size+1+1,0,none⟩ (.int .i64 d)).setCell ⟨w.heap.size+1+1,1,none⟩ (.slice va ts.length vc)) ⟨by rw [Zb,Zb];exact Nat.le_refl _,fun b hb=>(Below.heap_setCell _ ⟨w.heap.size+1+1,1,none⟩ _ b (fun e=>by have e':b=w.heap.size+1+1:=e;have:=(hts1.bnd b hb).1;omega)).trans (Below.heap_setCell _ ⟨w.heap.size+1+1,0,none⟩ _ b (fun e=>by have e':b=w.heap.size+1+1:=e;have:=(hts1.bnd b hb).1;omega))⟩).lowm (base':=w.heap.size) (by omega))
       have HLF:=Za (((Zd HB.out (Zd HL5.out L6)).setCell (by show w.heap.size<=w.heap.size+1+1;omega) (.int .i64 d)).setCell (by show w.heap.size<=w.heap.size+1+1;omega) (.slice va ts.length vc):Below w.heap.size w ((w6.setCell ⟨w.heap.size+1+1,0,none⟩ (.int .i64 d)).setCell ⟨w.heap.size+1+1,1,none⟩ (.slice va ts.length vc)))
       clear hts1 t26 t27 L6 k0 k1
       go_wp2_with fail
       refine bodyPost_ret (v:=.tuple #[.agg #[.int .i64 d,(.slice va ts.length vc)],.bool false]) (by simp [results,Tryz.results110,go_sem,q0,q1]) rfl ?_
       refine⟨(.slice va ts.length vc),?_,⟨S1,vm1,vl1,?_⟩,HLF.out⟩
       · unfold Zcg;rw [HNO.out];rfl
       · unfold ZaI;rw [HNO.out];exact HTF.out
     · have HOW:=Za (hOW hmb)
       have HMB:=Za hmb
       have hRL:=Zbn m ts k
       have hPL:=HP.out
       rw [<-hRL] at hPL
       have HPU:=Za (hPL.put LW (k:=k) (by rw [hRL];exact hkt) HOW.out hFX HL.out.size)
       rw [hRL] at HPU
       have hcl:∀i,i<(ZdM m ts k).length->w5.cell? ⟨g,i*2,none⟩=some (vm i)/\w5.cell? ⟨g,i*2+1,none⟩=some (vl i)/\∀j,w5.frozen? ⟨g,j,none⟩=false:=by
        obtain⟨g',c',hge,-,-,-,hcl⟩:=(HP5.out).nonil (by rw [hRL];omega)
        injection hge with h1 h2 h3
        injection h1 with h1
        injection h1 with h1
        subst h1
        exact hcl
       obtain⟨e0,e1,ef⟩:=hcl k (by rw [hRL];exact hkt)
       have f0:=ef (k*2)
       have f1:=ef (k*2+1)
       have o1:=HT5.out.c1
       have x0:=hTX.c0
       have x1:=hTX.c1
       have hi0:(0:Int)<=(k:Int):=Int.natCast_nonneg _
       have hi1:(k:Int)<(ts.length:Int):=by omega
       have hgo:g≠O:=HS0.out.2
       have HE:Hid (Two ((w5.setCell ⟨g,k*2,none⟩ (.slice a1 l1 c1)).setCell ⟨g,k*2+1,none⟩ (.slice a2 l2 c2)) O (.int .i64 (Zad d)) (.slice (some ⟨g,0,none⟩) ts.length c) 26/\Below W.heap.size W ((w5.setCell ⟨g,k*2,none⟩ (.slice a1 l1 c1)).setCell ⟨g,k*2+1,none⟩ (.slice a2 l2 c2))):=
        ⟨(HT5.out.far hgo _).far hgo _,(HL5.out.setCell (by show W.heap.size<=g;exact hg1) _).setCell (by show W.heap.size<=g;exact hg1) _⟩
       have hOl:=HT.out.lt
       have HSN:Hid (∀i b,i<ts.length->ZbO S k F i b->b≠O):=fun i b hi hb=>by
        unfold ZbO at hb
        by_cases e:i=k
        · rw [if_pos e] at hb;have:=hFX b hb;omega
        · rw [if_neg e] at hb;exact HSB.out i b hi hb
       have HRN:=Za (Zhq HRB.out hmb)
       clear hPL hRL hcl ef hOW hTX HP HT HL HP5 HT5 HL5 LW
       go_wp2_with fail
       go_roundg (N-(k+1))
       case rel=>exact⟨k+1,_,_,_,by omega,Nat.le_refl _,by go_num,HRN.out,HPU.out,HSN.out,HE.out.1,HE.out.2⟩
       case measure=>omega
  · obtain rfl:k=N:=by omega
    have hcond:¬((k:Int)<=(k:Int)-1):=by omega
    have HYES:Hid (Zb2 m ts d=true):=by show Zec m ts (Zdg d)=true;rw [HN.out];exact HRB.out
    have t2:=HT2.out.below HL.out
    have r0:=t2.c0
    have r1:=t2.c1
    have rf0:=t2.frozen 0
    have rf1:=t2.frozen 1
    have x1:=HT.out.c1
    have t3:=(t2.set0 (.int .i64 (Zad d))).set1 (.slice (some ⟨g,0,none⟩) ts.length c)
    have q0:=t3.c0
    have q1:=t3.c1
    have hz:=HL.out.size
    have hsz:=HSZ.out
    have HTF:=Za ((HP.out.sm (w':=(wr.setCell ⟨w.heap.size+1+1,0,none⟩ (.int .i64 (Zad d))).setCell ⟨w.heap.size+1+1,1,none⟩ (.slice (some ⟨g,0,none⟩) ts.length c)) ⟨by rw [Zb,Zb];exact Nat.le_refl _,fun b hb=>(Below.heap_setCell _ ⟨w.heap.size+1+1,1,none⟩ _ b (fun e=>by have e':b=w.heap.size+1+1:=e;have:=(HP.out.bnd b hb).1;omega)).trans (Below.heap_setCell _ ⟨w.heap.size+1+1,0,none⟩ _ b (fun e=>by have e':b=w.heap.size+1+1:=e;have:=(HP.out.bnd b hb).1;omega))⟩).lowm (base':=w.heap.size) (by omega))
    have HLF:=Za (((Zd HB.out HL.out).setCell (by show w.heap.size<=w.heap.size+1+1;omega) (.int .i64 (Zad d))).setCell (by show w.heap.size<=w.heap.size+1+1;omega) (.slice (some ⟨g,0,none⟩) ts.length c):Below w.heap.size w ((wr.setCell ⟨w.heap.size+1+1,0,none⟩ (.int .i64 (Zad d))).setCell ⟨w.heap.size+1+1,1,none⟩ (.slice (some ⟨g,0,none⟩) ts.length c)))
    clear t2 t3
    go_wp2_with fail
    refine HLE.out.mono ?_
    rintro e wo ⟨rfl,hwo⟩
    subst hwo
    go_wp2_with fail
    refine bodyPost_ret (v:=.tuple #[.agg #[.int .i64 (Zad d),.slice (some ⟨g,0,none⟩) ts.length c],.bool true]) (by simp [results,Tryz.results110,go_sem,q0,q1]) rfl ?_
    refine⟨.slice (some ⟨g,0,none⟩) ts.length c,?_,⟨S,vm,vl,?_⟩,HLF.out⟩
    · unfold Zcg;rw [HYES.out];rfl
    · unfold ZaI;rw [HYES.out,HN.out];exact HTF.out
theorem ZdO{P:Program}{md:Region.Mode}{Q:Exit->Act->World->Prop}{ops:Array Oper}{S:World->Prop}{fuel:Nat}{listed:Array Bool}{a:Act}{w:World}{o o2 o3:Oper}(i j l:Nat)(hr:Region.ready md ops listed=[i,j,l])(ho:ops[i]? =some o)(ho2:ops[j]? =some o2)(ho3:ops[l]? =some o3)
 (h:∀K:Act->World->Prop,Shut (∀a w,S w->(S w->wpAnyH P md ops Q S fuel (listed.setIfInBounds i true) a w)->K a w)->if Region.wanted o (yielded ops a.tmps)=true then Oper.wp P o a w K Q else K (a.put o.dst undef) w)
 (h2:∀K:Act->World->Prop,Shut (∀a w,S w->(S w->wpAnyH P md ops Q S fuel (listed.setIfInBounds j true) a w)->K a w)->if Region.wanted o2 (yielded ops a.tmps)=true then Oper.wp P o2 a w K Q else K (a.put o2.dst undef) w)
 (h3:∀K:Act->World->Prop,Shut (∀a w,S w->(S w->wpAnyH P md ops Q S fuel (listed.setIfInBounds l true) a w)->K a w)->if Region.wanted o3 (yielded ops a.tmps)=true then Oper.wp P o3 a w K Q else K (a.put o3.dst undef) w):wpAnyH P md ops Q S (fuel+1) listed a w:=
 wpAnyH_ready hr (by simp) (AllReadyH.cons ho h (AllReadyH.cons ho2 h2 (AllReadyH.cons ho3 h3 AllReadyH.nil)))
theorem Zhs(o:Bool)(b:Nat)(d:Int)(w:World)(ht:Thr w b o (if o then Zad d else d)):
 Calls Tryz.prog 103 #[.pointer (some ⟨b,0,none⟩)] w fun e w'=>e=.returned (.int .i64 (Zad d))/\Thr w' b true (Zad d)/\Cgd (fun i=>i=b) w w':=by
 cases o
 · exact Zlu b d w ht
 · exact (Zlv b (Zad d) w ht).mono (fun _ _ ⟨e,L⟩=>⟨e,Thr.sm ht (L.block b (Thr.lt ht)),Cgd.of L⟩)
theorem Zlw(aw at':Option Addr)(cw ct:Nat)(d:Int)(ts:List Wb)(m:Mk)(w:World)(hv:Zz true w aw ts)(ha:Zs w at' m.2)(hal:m.2.length<=1048576)(hok:ZZ d ts=true)(hsm:ZaB ts):
 Calls Tryz.prog 14 #[.agg #[.int .i64 d,.slice aw ts.length cw],.agg #[.int .i64 m.1,.slice at' m.2.length ct]] w fun e w'=>∃vt,e=.returned (.tuple #[.agg #[.int .i64 (Zcg m ts d),vt],.bool (Zb2 m ts d)])/\(∃S vm vl,TsR true w.heap.size w' vt (ZaI m ts d) S vm vl)/\Below w.heap.size w w':=by
 obtain⟨W1,hW1⟩:∃W,w.alloc (.cells #[.int .i64 d,.slice aw ts.length cw] 26)=W:=⟨_,rfl⟩
 obtain⟨W2,hW2⟩:∃W,W1.alloc (.cells #[.int .i64 m.1,.slice at' m.2.length ct] 29)=W:=⟨_,rfl⟩
 obtain⟨W,hW⟩:∃W,W2.alloc (.cells #[.int .i64 0,.slice none 0 0] 26)=W:=⟨_,rfl⟩
 have s1:W1.heap.size=w.heap.size+1:=by rw [<-hW1];simp
 have s2:W2.heap.size=w.heap.size+1+1:=by rw [<-hW2];simp [s1]
 have s3:W.heap.size=w.heap.size+1+1+1:=by rw [<-hW];simp [s2]
 have b1:Below w.heap.size w W1:=by rw [<-hW1];exact (Below.refl _ _).alloc (Nat.le_refl _) _
 have b2:Below W1.heap.size W1 W2:=by rw [<-hW2];exact (Below.refl _ _).alloc (Nat.le_refl _) _
 have b3:Below W2.heap.size W2 W:=by rw [<-hW];exact (Below.refl _ _).alloc (Nat.le_refl _) _
 have t0:Two W w.heap.size (.int .i64 d) (.slice aw ts.length cw) 26:=by
  have:Two W1 w.heap.size (.int .i64 d) (.slice aw ts.length cw) 26:=by rw [<-hW1];exact Two.new w _ _ _
  exact (this.below b2).below b3
 have t1:Two W (w.heap.size+1) (.int .i64 m.1) (.slice at' m.2.length ct) 29:=by
  have:Two W2 (w.heap.size+1) (.int .i64 m.1) (.slice at' m.2.length ct) 29:=by rw [<-hW2,<-s1];exact Two.new W1 _ _ _
  exact this.below b3
 have t2:Two W (w.heap.size+1+1) (.int .i64 0) (.slice none 0 0) 26:=by rw [<-hW,<-s2];exact Two.new W2 _ _ _
 have hB:=Zd (Zd b1 b2) b3
 have HB:=Za hB
 have HV:=Za (fun W' (L:Below W.heap.size W W')=>hv.next (Zd hB L))
 have HM:=Za (fun W' (L:Below W.heap.size W W')=>(ha.below (Nat.le_refl _) hB).below (Nat.le_refl _) L)
 have HT0:=Za t0
 have HT1:=Za t1
 have HT2:=Za t2
 have HSZ:=Za s3
 have HOK:=Za (And.intro hok (And.intro hsm hal))
 obtain⟨hlv,hn1,hn4⟩:=Zda (Zdw hok)
 have H4:Hid (ts.length=4):=(ZaW hok).1
 have HLV:=Za hlv
 have HCT:=Za (fun W' (L:Below W.heap.size W W')=>Ze9 true aw cw d ts W' (hv.next (Zd hB L)) hok hsm)
 have HOKT:=Za (Zht aw cw d ts W (hv.next hB) hsm)
 rw [hok] at HOKT
 have k0:=t0.c0
 have k1:=t0.c1
 have HWW:Hid (((w.alloc (.cells #[.int .i64 d,.slice aw ts.length cw] 26)).alloc (.cells #[.int .i64 m.1,.slice at' m.2.length ct] 29)).alloc (.cells #[.int .i64 0,.slice none 0 0] 26)=W):=by show _=_;rw [hW1,hW2,hW]
 obtain⟨N,hN⟩:∃N,Zdg d=N:=⟨_,rfl⟩
 have HN:=Za hN
 rw [hN] at hlv hn1 hn4 HLV
 clear hv ha hok hsm hal hB b1 b2 b3 t0 t1 t2 s1 s2 s3 hW hW1 hW2 hN hlv
 go_enter Tryz.func14,Tryz.ntmps14
 go_upto_region 1 with fail
 rw [HWW.out]
 clear HWW
 go_wp2_with fail
 refine HOKT.out.mono ?_
 rintro e W0 ⟨rfl,L0⟩
 clear k0 k1 HOKT
 go_upto_region 3 with fail
 go_cut [6,7] from 11 to 20 (fun v b wx=>∃Rb Tb g c S0 vm0 vl0,v=.pointer (some ⟨Rb,0,none⟩)/\b=.pointer (some ⟨Tb,0,none⟩)/\Two wx Rb (.int .i64 d) (.slice (some ⟨g,0,none⟩) ts.length c) 26/\Thr wx Tb false d/\TsR true W.heap.size wx (.slice (some ⟨g,0,none⟩) ts.length c) ts S0 vm0 vl0/\(∀b,FtR (.slice (some ⟨g,0,none⟩) ts.length c) ts.length S0 b->b≠Rb/\b≠Tb)/\Rb≠Tb/\W.heap.size<=Rb/\W.heap.size<=Tb/\Tb<wx.heap.size/\Rb<wx.heap.size/\Below W.heap.size W wx)
 case first=>
  have BLo:=Za (L0.drew)
  have HSo:Hid (∀W',Below W.heap.size W W'->W'.cell? ⟨w.heap.size,0,none⟩=some (.int .i64 d)/\W'.cell? ⟨w.heap.size,1,none⟩=some (.slice aw ts.length cw)):=fun W' L'=>⟨(HT0.out.below L').c0,(HT0.out.below L').c1⟩
  refine Zt (S:=fun W'=>Below W.heap.size W W') (fuel:=5) [0,2,3,4] (by kernel_rfl) (by kernel_rfl) (by kernel_rfl) (by kernel_rfl) BLo.out (fun _=>?_)
  iterate 4 (refine⟨_,rfl,?_⟩;apply Exists.intro;refine⟨Or.inl ⟨by rfl,fun w' hw'=>?_⟩,?_⟩;(focus (obtain⟨e1,e2⟩:=HSo.out w' hw';first | (go_simp;done) | (go_simp;with_reducible rfl)));simp only [Act.put,List.getElem_toArray,List.getElem_cons_succ,List.getElem_cons_zero,List.setIfInBounds_toArray,List.set_cons_zero,List.set_cons_succ])
  obtain⟨wv0,hv0⟩:∃w0,W0.drew=w0:=⟨_,rfl⟩
  have Bwv0:Below W.heap.size W wv0:=by rw [<-hv0];exact BLo.out
  have swv0:W.heap.size<=wv0.heap.size:=Bwv0.size
  rw [hv0]
  clear hv0
  refine ZdO 1 5 6 (by kernel_rfl) rfl rfl rfl (fun K hK=>?_) (fun K hK=>?_) (fun K hK=>?_)
  · go_simp
    refine (HCT.out wv0 Bwv0).mono ?_
    rintro e u1 ⟨vt,rfl,⟨S0,vm0,vl0,ht⟩,Lu1⟩
    obtain⟨g,c,rfl,hg1,hg2,hgc,-⟩:=ht.nonil (by have:=H4.out;omega)
    have hft:∀b,FtR (.slice (some ⟨g,0,none⟩) ts.length c) ts.length S0 b->wv0.heap.size<=b/\b<u1.heap.size:=fun b hb=>ht.bnd b hb
    have su1:=Lu1.size
    have Bu1:=Zd Bwv0 Lu1
    refine hK.out _ _ Bu1 (fun _=>?_)
    clear hK K
    refine ZD 5 6 (by kernel_rfl) rfl rfl (fun K hK=>?_) (fun K hK=>?_)
    · go_simp
      obtain⟨u2,hu2⟩:∃w0,u1.alloc (.cells #[.int .u32 0,.int .i32 0,.int .u32 0,.int .i64 d] 151)=w0:=⟨_,rfl⟩
      have Lu2:Below u1.heap.size u1 u2:=by rw [<-hu2];exact (Below.refl _ _).alloc (Nat.le_refl _) _
      obtain⟨Tb,hTb⟩:∃q,u1.heap.size=q:=⟨_,rfl⟩
      have hT:Thr u2 Tb false d:=by rw [<-hu2,<-hTb];exact heap_alloc_new u1 _
      have sT:=hT.lt
      first | rw [hu2] | skip
      first | rw [hTb] | skip
      have su2:=Lu2.size
      replace ht:=ht.next Lu2
      have Bu2:=Zd Bu1 Lu2
      refine hK.out _ _ Bu2 (fun _=>?_)
      clear hK K hu2
      refine Zc 6 (by kernel_rfl) rfl (fun K hK=>?_)
      · go_simp
        obtain⟨u3,hu3⟩:∃w0,u2.alloc (.cells #[.int .i64 0,.slice none 0 0] 26)=w0:=⟨_,rfl⟩
        have Lu3:Below u2.heap.size u2 u3:=by rw [<-hu3];exact (Below.refl _ _).alloc (Nat.le_refl _) _
        obtain⟨Rb,hRb⟩:∃q,u2.heap.size=q:=⟨_,rfl⟩
        have hR:Two u3 Rb (.int .i64 0) (.slice none 0 0) 26:=by rw [<-hu3,<-hRb];exact Two.new u2 _ _ _
        have sR:=hR.lt
        first | rw [hu3] | skip
        first | rw [hRb] | skip
        have su3:=Lu3.size
        replace ht:=ht.next Lu3
        replace hT:=hT.sm (Lu3.block _ hT.lt)
        have Bu3:=Zd Bu2 Lu3
        refine hK.out _ _ Bu3 (fun _=>?_)
        clear hK K hu3
        have x0:=hR.c0
        have x1:=hR.c1
        have xf0:=hR.frozen 0
        have xf1:=hR.frozen 1
        refine Zc 7 (by kernel_rfl) rfl (fun K hK=>?_)
        · go_simp
          obtain⟨u4,hu4⟩:∃wz,(u3.setCell ⟨Rb,0,none⟩ (.int .i64 d)).setCell ⟨Rb,1,none⟩ (.slice (some ⟨g,0,none⟩) ts.length c)=wz:=⟨_,rfl⟩
          have far:∀b,b≠Rb->u4.heap[b]? =u3.heap[b]? :=fun b hb=>by rw [<-hu4];exact (Below.heap_setCell _ ⟨Rb,1,none⟩ _ b (fun e=>hb e)).trans (Below.heap_setCell _ ⟨Rb,0,none⟩ _ b (fun e=>hb e))
          have su4:u3.heap.size=u4.heap.size:=by rw [<-hu4,Zb,Zb]
          replace ht:=ht.sm (w':=u4) ⟨by omega,fun b hb=>far b (by have:=hft b hb;omega)⟩
          have Bu4:Below W.heap.size W u4:=by rw [<-hu4];exact (Bu3.setCell (by show W.heap.size<=Rb;omega) _).setCell (by show W.heap.size<=Rb;omega) _
          replace hR:Two u4 Rb (.int .i64 d) (.slice (some ⟨g,0,none⟩) ts.length c) 26:=by rw [<-hu4];exact (hR.set0 _).set1 _
          first | rw [hu4] | skip
          replace hT:=hT.sm (w':=u4) (far Tb (by omega))
          refine hK.out _ _ Bu4 (fun _=>?_)
          clear hK K hu4 far x0 x1 xf0 xf1
          refine ZB [8] rfl (by kernel_rfl) (by kernel_rfl) (by kernel_rfl) Bu4 ?_
          iterate 1 (refine⟨_,rfl,?_⟩;apply Exists.intro;refine⟨Or.inl ⟨by rfl,fun w' hw'=>?_⟩,?_⟩;(focus (first | (go_simp;done) | (go_simp;with_reducible rfl)));simp only [Act.put,List.getElem_toArray,List.getElem_cons_succ,List.getElem_cons_zero,List.setIfInBounds_toArray,List.set_cons_zero,List.set_cons_succ])
          refine NoPanic.normal (NoPanic.normal ?_)
          have hTl:=hT.lt
          have hRl:=hR.lt
          go_wp2_with fail
          go_meet
          exact⟨Rb,Tb,g,c,S0,vm0,vl0,rfl,rfl,hR,hT,ht.lowm (by omega),fun b hb=>by have:=hft b hb;omega,by omega,by omega,by omega,by omega,by omega,Bu4⟩
    · go_simp
      obtain⟨u2,hu2⟩:∃w0,u1.alloc (.cells #[.int .i64 0,.slice none 0 0] 26)=w0:=⟨_,rfl⟩
      have Lu2:Below u1.heap.size u1 u2:=by rw [<-hu2];exact (Below.refl _ _).alloc (Nat.le_refl _) _
      obtain⟨Rb,hRb⟩:∃q,u1.heap.size=q:=⟨_,rfl⟩
      have hR:Two u2 Rb (.int .i64 0) (.slice none 0 0) 26:=by rw [<-hu2,<-hRb];exact Two.new u1 _ _ _
      have sR:=hR.lt
      first | rw [hu2] | skip
      first | rw [hRb] | skip
      have su2:=Lu2.size
      replace ht:=ht.next Lu2
      have Bu2:=Zd Bu1 Lu2
      refine hK.out _ _ Bu2 (fun _=>?_)
      clear hK K hu2
      have x0:=hR.c0
      have x1:=hR.c1
      have xf0:=hR.frozen 0
      have xf1:=hR.frozen 1
      refine ZD 5 7 (by kernel_rfl) rfl rfl (fun K hK=>?_) (fun K hK=>?_)
      · go_simp
        obtain⟨u3,hu3⟩:∃w0,u2.alloc (.cells #[.int .u32 0,.int .i32 0,.int .u32 0,.int .i64 d] 151)=w0:=⟨_,rfl⟩
        have Lu3:Below u2.heap.size u2 u3:=by rw [<-hu3];exact (Below.refl _ _).alloc (Nat.le_refl _) _
        obtain⟨Tb,hTb⟩:∃q,u2.heap.size=q:=⟨_,rfl⟩
        have hT:Thr u3 Tb false d:=by rw [<-hu3,<-hTb];exact heap_alloc_new u2 _
        have sT:=hT.lt
        first | rw [hu3] | skip
        first | rw [hTb] | skip
        have su3:=Lu3.size
        replace ht:=ht.next Lu3
        replace hR:=hR.below Lu3
        have Bu3:=Zd Bu2 Lu3
        refine hK.out _ _ Bu3 (fun _=>?_)
        clear hK K hu3 x0 x1 xf0 xf1
        have x0:=hR.c0
        have x1:=hR.c1
        have xf0:=hR.frozen 0
        have xf1:=hR.frozen 1
        refine Zc 7 (by kernel_rfl) rfl (fun K hK=>?_)
        · go_simp
          obtain⟨u4,hu4⟩:∃wz,(u3.setCell ⟨Rb,0,none⟩ (.int .i64 d)).setCell ⟨Rb,1,none⟩ (.slice (some ⟨g,0,none⟩) ts.length c)=wz:=⟨_,rfl⟩
          have far:∀b,b≠Rb->u4.heap[b]? =u3.heap[b]? :=fun b hb=>by rw [<-hu4];exact (Below.heap_setCell _ ⟨Rb,1,none⟩ _ b (fun e=>hb e)).trans (Below.heap_setCell _ ⟨Rb,0,none⟩ _ b (fun e=>hb e))
          have su4:u3.heap.size=u4.heap.size:=by rw [<-hu4,Zb,Zb]
          replace ht:=ht.sm (w':=u4) ⟨by omega,fun b hb=>far b (by have:=hft b hb;omega)⟩
          have Bu4:Below W.heap.size W u4:=by rw [<-hu4];exact (Bu3.setCell (by show W.heap.size<=Rb;omega) _).setCell (by show W.heap.size<=Rb;omega) _
          replace hR:Two u4 Rb (.int .i64 d) (.slice (some ⟨g,0,none⟩) ts.length c) 26:=by rw [<-hu4];exact (hR.set0 _).set1 _
          first | rw [hu4] | skip
          replace hT:=hT.sm (w':=u4) (far Tb (by omega))
          refine hK.out _ _ Bu4 (fun _=>?_)
          clear hK K hu4 far x0 x1 xf0 xf1
          refine ZB [8] rfl (by kernel_rfl) (by kernel_rfl) (by kernel_rfl) Bu4 ?_
          iterate 1 (refine⟨_,rfl,?_⟩;apply Exists.intro;refine⟨Or.inl ⟨by rfl,fun w' hw'=>?_⟩,?_⟩;(focus (first | (go_simp;done) | (go_simp;with_reducible rfl)));simp only [Act.put,List.getElem_toArray,List.getElem_cons_succ,List.getElem_cons_zero,List.setIfInBounds_toArray,List.set_cons_zero,List.set_cons_succ])
          refine NoPanic.normal (NoPanic.normal ?_)
          have hTl:=hT.lt
          have hRl:=hR.lt
          go_wp2_with fail
          go_meet
          exact⟨Rb,Tb,g,c,S0,vm0,vl0,rfl,rfl,hR,hT,ht.lowm (by omega),fun b hb=>by have:=hft b hb;omega,by omega,by omega,by omega,by omega,by omega,Bu4⟩
      · go_simp
        obtain⟨u3,hu3⟩:∃wz,(u2.setCell ⟨Rb,0,none⟩ (.int .i64 d)).setCell ⟨Rb,1,none⟩ (.slice (some ⟨g,0,none⟩) ts.length c)=wz:=⟨_,rfl⟩
        have far:∀b,b≠Rb->u3.heap[b]? =u2.heap[b]? :=fun b hb=>by rw [<-hu3];exact (Below.heap_setCell _ ⟨Rb,1,none⟩ _ b (fun e=>hb e)).trans (Below.heap_setCell _ ⟨Rb,0,none⟩ _ b (fun e=>hb e))
        have su3:u2.heap.size=u3.heap.size:=by rw [<-hu3,Zb,Zb]
        replace ht:=ht.sm (w':=u3) ⟨by omega,fun b hb=>far b (by have:=hft b hb;omega)⟩
        have Bu3:Below W.heap.size W u3:=by rw [<-hu3];exact (Bu2.setCell (by show W.heap.size<=Rb;omega) _).setCell (by show W.heap.size<=Rb;omega) _
        replace hR:Two u3 Rb (.int .i64 d) (.slice (some ⟨g,0,none⟩) ts.length c) 26:=by rw [<-hu3];exact (hR.set0 _).set1 _
        first | rw [hu3] | skip
        refine hK.out _ _ Bu3 (fun _=>?_)
        clear hK K hu3 far x0 x1 xf0 xf1
        refine Zc 5 (by kernel_rfl) rfl (fun K hK=>?_)
        · go_simp
          obtain⟨u4,hu4⟩:∃w0,u3.alloc (.cells #[.int .u32 0,.int .i32 0,.int .u32 0,.int .i64 d] 151)=w0:=⟨_,rfl⟩
          have Lu4:Below u3.heap.size u3 u4:=by rw [<-hu4];exact (Below.refl _ _).alloc (Nat.le_refl _) _
          obtain⟨Tb,hTb⟩:∃q,u3.heap.size=q:=⟨_,rfl⟩
          have hT:Thr u4 Tb false d:=by rw [<-hu4,<-hTb];exact heap_alloc_new u3 _
          have sT:=hT.lt
          first | rw [hu4] | skip
          first | rw [hTb] | skip
          have su4:=Lu4.size
          replace ht:=ht.next Lu4
          replace hR:=hR.below Lu4
          have Bu4:=Zd Bu3 Lu4
          refine hK.out _ _ Bu4 (fun _=>?_)
          clear hK K hu4
          refine ZB [8] rfl (by kernel_rfl) (by kernel_rfl) (by kernel_rfl) Bu4 ?_
          iterate 1 (refine⟨_,rfl,?_⟩;apply Exists.intro;refine⟨Or.inl ⟨by rfl,fun w' hw'=>?_⟩,?_⟩;(focus (first | (go_simp;done) | (go_simp;with_reducible rfl)));simp only [Act.put,List.getElem_toArray,List.getElem_cons_succ,List.getElem_cons_zero,List.setIfInBounds_toArray,List.set_cons_zero,List.set_cons_succ])
          refine NoPanic.normal (NoPanic.normal ?_)
          have hTl:=hT.lt
          have hRl:=hR.lt
          go_wp2_with fail
          go_meet
          exact⟨Rb,Tb,g,c,S0,vm0,vl0,rfl,rfl,hR,hT,ht.lowm (by omega),fun b hb=>by have:=hft b hb;omega,by omega,by omega,by omega,by omega,by omega,Bu4⟩
  · go_simp
    obtain⟨u1,hu1⟩:∃w0,wv0.alloc (.cells #[.int .u32 0,.int .i32 0,.int .u32 0,.int .i64 d] 151)=w0:=⟨_,rfl⟩
    have Lu1:Below wv0.heap.size wv0 u1:=by rw [<-hu1];exact (Below.refl _ _).alloc (Nat.le_refl _) _
    obtain⟨Tb,hTb⟩:∃q,wv0.heap.size=q:=⟨_,rfl⟩
    have hT:Thr u1 Tb false d:=by rw [<-hu1,<-hTb];exact heap_alloc_new wv0 _
    have sT:=hT.lt
    first | rw [hu1] | skip
    first | rw [hTb] | skip
    have su1:=Lu1.size
    have Bu1:=Zd Bwv0 Lu1
    refine hK.out _ _ Bu1 (fun _=>?_)
    clear hK K hu1
    refine ZD 1 6 (by kernel_rfl) rfl rfl (fun K hK=>?_) (fun K hK=>?_)
    · go_simp
      refine (HCT.out u1 Bu1).mono ?_
      rintro e u2 ⟨vt,rfl,⟨S0,vm0,vl0,ht⟩,Lu2⟩
      obtain⟨g,c,rfl,hg1,hg2,hgc,-⟩:=ht.nonil (by have:=H4.out;omega)
      have hft:∀b,FtR (.slice (some ⟨g,0,none⟩) ts.length c) ts.length S0 b->u1.heap.size<=b/\b<u2.heap.size:=fun b hb=>ht.bnd b hb
      have su2:=Lu2.size
      replace hT:=hT.sm (Lu2.block _ hT.lt)
      have Bu2:=Zd Bu1 Lu2
      refine hK.out _ _ Bu2 (fun _=>?_)
      clear hK K
      refine Zc 6 (by kernel_rfl) rfl (fun K hK=>?_)
      · go_simp
        obtain⟨u3,hu3⟩:∃w0,u2.alloc (.cells #[.int .i64 0,.slice none 0 0] 26)=w0:=⟨_,rfl⟩
        have Lu3:Below u2.heap.size u2 u3:=by rw [<-hu3];exact (Below.refl _ _).alloc (Nat.le_refl _) _
        obtain⟨Rb,hRb⟩:∃q,u2.heap.size=q:=⟨_,rfl⟩
        have hR:Two u3 Rb (.int .i64 0) (.slice none 0 0) 26:=by rw [<-hu3,<-hRb];exact Two.new u2 _ _ _
        have sR:=hR.lt
        first | rw [hu3] | skip
        first | rw [hRb] | skip
        have su3:=Lu3.size
        replace ht:=ht.next Lu3
        replace hT:=hT.sm (Lu3.block _ hT.lt)
        have Bu3:=Zd Bu2 Lu3
        refine hK.out _ _ Bu3 (fun _=>?_)
        clear hK K hu3
        have x0:=hR.c0
        have x1:=hR.c1
        have xf0:=hR.frozen 0
        have xf1:=hR.frozen 1
        refine Zc 7 (by kernel_rfl) rfl (fun K hK=>?_)
        · go_simp
          obtain⟨u4,hu4⟩:∃wz,(u3.setCell ⟨Rb,0,none⟩ (.int .i64 d)).setCell ⟨Rb,1,none⟩ (.slice (some ⟨g,0,none⟩) ts.length c)=wz:=⟨_,rfl⟩
          have far:∀b,b≠Rb->u4.heap[b]? =u3.heap[b]? :=fun b hb=>by rw [<-hu4];exact (Below.heap_setCell _ ⟨Rb,1,none⟩ _ b (fun e=>hb e)).trans (Below.heap_setCell _ ⟨Rb,0,none⟩ _ b (fun e=>hb e))
          have su4:u3.heap.size=u4.heap.size:=by rw [<-hu4,Zb,Zb]
          replace ht:=ht.sm (w':=u4) ⟨by omega,fun b hb=>far b (by have:=hft b hb;omega)⟩
          have Bu4:Below W.heap.size W u4:=by rw [<-hu4];exact (Bu3.setCell (by show W.heap.size<=Rb;omega) _).setCell (by show W.heap.size<=Rb;omega) _
          replace hR:Two u4 Rb (.int .i64 d) (.slice (some ⟨g,0,none⟩) ts.length c) 26:=by rw [<-hu4];exact (hR.set0 _).set1 _
          first | rw [hu4] | skip
          replace hT:=hT.sm (w':=u4) (far Tb (by omega))
          refine hK.out _ _ Bu4 (fun _=>?_)
          clear hK K hu4 far x0 x1 xf0 xf1
          refine ZB [8] rfl (by kernel_rfl) (by kernel_rfl) (by kernel_rfl) Bu4 ?_
          iterate 1 (refine⟨_,rfl,?_⟩;apply Exists.intro;refine⟨Or.inl ⟨by rfl,fun w' hw'=>?_⟩,?_⟩;(focus (first | (go_simp;done) | (go_simp;with_reducible rfl)));simp only [Act.put,List.getElem_toArray,List.getElem_cons_succ,List.getElem_cons_zero,List.setIfInBounds_toArray,List.set_cons_zero,List.set_cons_succ])
          refine NoPanic.normal (NoPanic.normal ?_)
          have hTl:=hT.lt
          have hRl:=hR.lt
          go_wp2_with fail
          go_meet
          exact⟨Rb,Tb,g,c,S0,vm0,vl0,rfl,rfl,hR,hT,ht.lowm (by omega),fun b hb=>by have:=hft b hb;omega,by omega,by omega,by omega,by omega,by omega,Bu4⟩
    · go_simp
      obtain⟨u2,hu2⟩:∃w0,u1.alloc (.cells #[.int .i64 0,.slice none 0 0] 26)=w0:=⟨_,rfl⟩
      have Lu2:Below u1.heap.size u1 u2:=by rw [<-hu2];exact (Below.refl _ _).alloc (Nat.le_refl _) _
      obtain⟨Rb,hRb⟩:∃q,u1.heap.size=q:=⟨_,rfl⟩
      have hR:Two u2 Rb (.int .i64 0) (.slice none 0 0) 26:=by rw [<-hu2,<-hRb];exact Two.new u1 _ _ _
      have sR:=hR.lt
      first | rw [hu2] | skip
      first | rw [hRb] | skip
      have su2:=Lu2.size
      replace hT:=hT.sm (Lu2.block _ hT.lt)
      have Bu2:=Zd Bu1 Lu2
      refine hK.out _ _ Bu2 (fun _=>?_)
      clear hK K hu2
      refine Zc 1 (by kernel_rfl) rfl (fun K hK=>?_)
      · go_simp
        refine (HCT.out u2 Bu2).mono ?_
        rintro e u3 ⟨vt,rfl,⟨S0,vm0,vl0,ht⟩,Lu3⟩
        obtain⟨g,c,rfl,hg1,hg2,hgc,-⟩:=ht.nonil (by have:=H4.out;omega)
        have hft:∀b,FtR (.slice (some ⟨g,0,none⟩) ts.length c) ts.length S0 b->u2.heap.size<=b/\b<u3.heap.size:=fun b hb=>ht.bnd b hb
        have su3:=Lu3.size
        replace hT:=hT.sm (Lu3.block _ hT.lt)
        replace hR:=hR.below Lu3
        have Bu3:=Zd Bu2 Lu3
        refine hK.out _ _ Bu3 (fun _=>?_)
        clear hK K
        have x0:=hR.c0
        have x1:=hR.c1
        have xf0:=hR.frozen 0
        have xf1:=hR.frozen 1
        refine Zc 7 (by kernel_rfl) rfl (fun K hK=>?_)
        · go_simp
          obtain⟨u4,hu4⟩:∃wz,(u3.setCell ⟨Rb,0,none⟩ (.int .i64 d)).setCell ⟨Rb,1,none⟩ (.slice (some ⟨g,0,none⟩) ts.length c)=wz:=⟨_,rfl⟩
          have far:∀b,b≠Rb->u4.heap[b]? =u3.heap[b]? :=fun b hb=>by rw [<-hu4];exact (Below.heap_setCell _ ⟨Rb,1,none⟩ _ b (fun e=>hb e)).trans (Below.heap_setCell _ ⟨Rb,0,none⟩ _ b (fun e=>hb e))
          have su4:u3.heap.size=u4.heap.size:=by rw [<-hu4,Zb,Zb]
          replace ht:=ht.sm (w':=u4) ⟨by omega,fun b hb=>far b (by have:=hft b hb;omega)⟩
          have Bu4:Below W.heap.size W u4:=by rw [<-hu4];exact (Bu3.setCell (by show W.heap.size<=Rb;omega) _).setCell (by show W.heap.size<=Rb;omega) _
          replace hR:Two u4 Rb (.int .i64 d) (.slice (some ⟨g,0,none⟩) ts.length c) 26:=by rw [<-hu4];exact (hR.set0 _).set1 _
          first | rw [hu4] | skip
          replace hT:=hT.sm (w':=u4) (far Tb (by omega))
          refine hK.out _ _ Bu4 (fun _=>?_)
          clear hK K hu4 far x0 x1 xf0 xf1
          refine ZB [8] rfl (by kernel_rfl) (by kernel_rfl) (by kernel_rfl) Bu4 ?_
          iterate 1 (refine⟨_,rfl,?_⟩;apply Exists.intro;refine⟨Or.inl ⟨by rfl,fun w' hw'=>?_⟩,?_⟩;(focus (first | (go_simp;done) | (go_simp;with_reducible rfl)));simp only [Act.put,List.getElem_toArray,List.getElem_cons_succ,List.getElem_cons_zero,List.setIfInBounds_toArray,List.set_cons_zero,List.set_cons_succ])
          refine NoPanic.normal (NoPanic.normal ?_)
          have hTl:=hT.lt
          have hRl:=hR.lt
          go_wp2_with fail
          go_meet
          exact⟨Rb,Tb,g,c,S0,vm0,vl0,rfl,rfl,hR,hT,ht.lowm (by omega),fun b hb=>by have:=hft b hb;omega,by omega,by omega,by omega,by omega,by omega,Bu4⟩
  · go_simp
    obtain⟨u1,hu1⟩:∃w0,wv0.alloc (.cells #[.int .i64 0,.slice none 0 0] 26)=w0:=⟨_,rfl⟩
    have Lu1:Below wv0.heap.size wv0 u1:=by rw [<-hu1];exact (Below.refl _ _).alloc (Nat.le_refl _) _
    obtain⟨Rb,hRb⟩:∃q,wv0.heap.size=q:=⟨_,rfl⟩
    have hR:Two u1 Rb (.int .i64 0) (.slice none 0 0) 26:=by rw [<-hu1,<-hRb];exact Two.new wv0 _ _ _
    have sR:=hR.lt
    first | rw [hu1] | skip
    first | rw [hRb] | skip
    have su1:=Lu1.size
    have Bu1:=Zd Bwv0 Lu1
    refine hK.out _ _ Bu1 (fun _=>?_)
    clear hK K hu1
    refine ZD 1 5 (by kernel_rfl) rfl rfl (fun K hK=>?_) (fun K hK=>?_)
    · go_simp
      refine (HCT.out u1 Bu1).mono ?_
      rintro e u2 ⟨vt,rfl,⟨S0,vm0,vl0,ht⟩,Lu2⟩
      obtain⟨g,c,rfl,hg1,hg2,hgc,-⟩:=ht.nonil (by have:=H4.out;omega)
      have hft:∀b,FtR (.slice (some ⟨g,0,none⟩) ts.length c) ts.length S0 b->u1.heap.size<=b/\b<u2.heap.size:=fun b hb=>ht.bnd b hb
      have su2:=Lu2.size
      replace hR:=hR.below Lu2
      have Bu2:=Zd Bu1 Lu2
      refine hK.out _ _ Bu2 (fun _=>?_)
      clear hK K
      have x0:=hR.c0
      have x1:=hR.c1
      have xf0:=hR.frozen 0
      have xf1:=hR.frozen 1
      refine ZD 5 7 (by kernel_rfl) rfl rfl (fun K hK=>?_) (fun K hK=>?_)
      · go_simp
        obtain⟨u3,hu3⟩:∃w0,u2.alloc (.cells #[.int .u32 0,.int .i32 0,.int .u32 0,.int .i64 d] 151)=w0:=⟨_,rfl⟩
        have Lu3:Below u2.heap.size u2 u3:=by rw [<-hu3];exact (Below.refl _ _).alloc (Nat.le_refl _) _
        obtain⟨Tb,hTb⟩:∃q,u2.heap.size=q:=⟨_,rfl⟩
        have hT:Thr u3 Tb false d:=by rw [<-hu3,<-hTb];exact heap_alloc_new u2 _
        have sT:=hT.lt
        first | rw [hu3] | skip
        first | rw [hTb] | skip
        have su3:=Lu3.size
        replace ht:=ht.next Lu3
        replace hR:=hR.below Lu3
        have Bu3:=Zd Bu2 Lu3
        refine hK.out _ _ Bu3 (fun _=>?_)
        clear hK K hu3 x0 x1 xf0 xf1
        have x0:=hR.c0
        have x1:=hR.c1
        have xf0:=hR.frozen 0
        have xf1:=hR.frozen 1
        refine Zc 7 (by kernel_rfl) rfl (fun K hK=>?_)
        · go_simp
          obtain⟨u4,hu4⟩:∃wz,(u3.setCell ⟨Rb,0,none⟩ (.int .i64 d)).setCell ⟨Rb,1,none⟩ (.slice (some ⟨g,0,none⟩) ts.length c)=wz:=⟨_,rfl⟩
          have far:∀b,b≠Rb->u4.heap[b]? =u3.heap[b]? :=fun b hb=>by rw [<-hu4];exact (Below.heap_setCell _ ⟨Rb,1,none⟩ _ b (fun e=>hb e)).trans (Below.heap_setCell _ ⟨Rb,0,none⟩ _ b (fun e=>hb e))
          have su4:u3.heap.size=u4.heap.size:=by rw [<-hu4,Zb,Zb]
          replace ht:=ht.sm (w':=u4) ⟨by omega,fun b hb=>far b (by have:=hft b hb;omega)⟩
          have Bu4:Below W.heap.size W u4:=by rw [<-hu4];exact (Bu3.setCell (by show W.heap.size<=Rb;omega) _).setCell (by show W.heap.size<=Rb;omega) _
          replace hR:Two u4 Rb (.int .i64 d) (.slice (some ⟨g,0,none⟩) ts.length c) 26:=by rw [<-hu4];exact (hR.set0 _).set1 _
          first | rw [hu4] | skip
          replace hT:=hT.sm (w':=u4) (far Tb (by omega))
          refine hK.out _ _ Bu4 (fun _=>?_)
          clear hK K hu4 far x0 x1 xf0 xf1
          refine ZB [8] rfl (by kernel_rfl) (by kernel_rfl) (by kernel_rfl) Bu4 ?_
          iterate 1 (refine⟨_,rfl,?_⟩;apply Exists.intro;refine⟨Or.inl ⟨by rfl,fun w' hw'=>?_⟩,?_⟩;(focus (first | (go_simp;done) | (go_simp;with_reducible rfl)));simp only [Act.put,List.getElem_toArray,List.getElem_cons_succ,List.getElem_cons_zero,List.setIfInBounds_toArray,List.set_cons_zero,List.set_cons_succ])
          refine NoPanic.normal (NoPanic.normal ?_)
          have hTl:=hT.lt
          have hRl:=hR.lt
          go_wp2_with fail
          go_meet
          exact⟨Rb,Tb,g,c,S0,vm0,vl0,rfl,rfl,hR,hT,ht.lowm (by omega),fun b hb=>by have:=hft b hb;omega,by omega,by omega,by omega,by omega,by omega,Bu4⟩
      · go_simp
        obtain⟨u3,hu3⟩:∃wz,(u2.setCell ⟨Rb,0,none⟩ (.int .i64 d)).setCell ⟨Rb,1,none⟩ (.slice (some ⟨g,0,none⟩) ts.length c)=wz:=⟨_,rfl⟩
        have far:∀b,b≠Rb->u3.heap[b]? =u2.heap[b]? :=fun b hb=>by rw [<-hu3];exact (Below.heap_setCell _ ⟨Rb,1,none⟩ _ b (fun e=>hb e)).trans (Below.heap_setCell _ ⟨Rb,0,none⟩ _ b (fun e=>hb e))
        have su3:u2.heap.size=u3.heap.size:=by rw [<-hu3,Zb,Zb]
        replace ht:=ht.sm (w':=u3) ⟨by omega,fun b hb=>far b (by have:=hft b hb;omega)⟩
        have Bu3:Below W.heap.size W u3:=by rw [<-hu3];exact (Bu2.setCell (by show W.heap.size<=Rb;omega) _).setCell (by show W.heap.size<=Rb;omega) _
        replace hR:Two u3 Rb (.int .i64 d) (.slice (some ⟨g,0,none⟩) ts.length c) 26:=by rw [<-hu3];exact (hR.set0 _).set1 _
        first | rw [hu3] | skip
        refine hK.out _ _ Bu3 (fun _=>?_)
        clear hK K hu3 far x0 x1 xf0 xf1
        refine Zc 5 (by kernel_rfl) rfl (fun K hK=>?_)
        · go_simp
          obtain⟨u4,hu4⟩:∃w0,u3.alloc (.cells #[.int .u32 0,.int .i32 0,.int .u32 0,.int .i64 d] 151)=w0:=⟨_,rfl⟩
          have Lu4:Below u3.heap.size u3 u4:=by rw [<-hu4];exact (Below.refl _ _).alloc (Nat.le_refl _) _
          obtain⟨Tb,hTb⟩:∃q,u3.heap.size=q:=⟨_,rfl⟩
          have hT:Thr u4 Tb false d:=by rw [<-hu4,<-hTb];exact heap_alloc_new u3 _
          have sT:=hT.lt
          first | rw [hu4] | skip
          first | rw [hTb] | skip
          have su4:=Lu4.size
          replace ht:=ht.next Lu4
          replace hR:=hR.below Lu4
          have Bu4:=Zd Bu3 Lu4
          refine hK.out _ _ Bu4 (fun _=>?_)
          clear hK K hu4
          refine ZB [8] rfl (by kernel_rfl) (by kernel_rfl) (by kernel_rfl) Bu4 ?_
          iterate 1 (refine⟨_,rfl,?_⟩;apply Exists.intro;refine⟨Or.inl ⟨by rfl,fun w' hw'=>?_⟩,?_⟩;(focus (first | (go_simp;done) | (go_simp;with_reducible rfl)));simp only [Act.put,List.getElem_toArray,List.getElem_cons_succ,List.getElem_cons_zero,List.setIfInBounds_toArray,List.set_cons_zero,List.set_cons_succ])
          refine NoPanic.normal (NoPanic.normal ?_)
          have hTl:=hT.lt
          have hRl:=hR.lt
          go_wp2_with fail
          go_meet
          exact⟨Rb,Tb,g,c,S0,vm0,vl0,rfl,rfl,hR,hT,ht.lowm (by omega),fun b hb=>by have:=hft b hb;omega,by omega,by omega,by omega,by omega,by omega,Bu4⟩
    · go_simp
      obtain⟨u2,hu2⟩:∃w0,u1.alloc (.cells #[.int .u32 0,.int .i32 0,.int .u32 0,.int .i64 d] 151)=w0:=⟨_,rfl⟩
      have Lu2:Below u1.heap.size u1 u2:=by rw [<-hu2];exact (Below.refl _ _).alloc (Nat.le_refl _) _
      obtain⟨Tb,hTb⟩:∃q,u1.heap.size=q:=⟨_,rfl⟩
      have hT:Thr u2 Tb false d:=by rw [<-hu2,<-hTb];exact heap_alloc_new u1 _
      have sT:=hT.lt
      first | rw [hu2] | skip
      first | rw [hTb] | skip
      have su2:=Lu2.size
      replace hR:=hR.below Lu2
      have Bu2:=Zd Bu1 Lu2
      refine hK.out _ _ Bu2 (fun _=>?_)
      clear hK K hu2
      refine Zc 1 (by kernel_rfl) rfl (fun K hK=>?_)
      · go_simp
        refine (HCT.out u2 Bu2).mono ?_
        rintro e u3 ⟨vt,rfl,⟨S0,vm0,vl0,ht⟩,Lu3⟩
        obtain⟨g,c,rfl,hg1,hg2,hgc,-⟩:=ht.nonil (by have:=H4.out;omega)
        have hft:∀b,FtR (.slice (some ⟨g,0,none⟩) ts.length c) ts.length S0 b->u2.heap.size<=b/\b<u3.heap.size:=fun b hb=>ht.bnd b hb
        have su3:=Lu3.size
        replace hT:=hT.sm (Lu3.block _ hT.lt)
        replace hR:=hR.below Lu3
        have Bu3:=Zd Bu2 Lu3
        refine hK.out _ _ Bu3 (fun _=>?_)
        clear hK K
        have x0:=hR.c0
        have x1:=hR.c1
        have xf0:=hR.frozen 0
        have xf1:=hR.frozen 1
        refine Zc 7 (by kernel_rfl) rfl (fun K hK=>?_)
        · go_simp
          obtain⟨u4,hu4⟩:∃wz,(u3.setCell ⟨Rb,0,none⟩ (.int .i64 d)).setCell ⟨Rb,1,none⟩ (.slice (some ⟨g,0,none⟩) ts.length c)=wz:=⟨_,rfl⟩
          have far:∀b,b≠Rb->u4.heap[b]? =u3.heap[b]? :=fun b hb=>by rw [<-hu4];exact (Below.heap_setCell _ ⟨Rb,1,none⟩ _ b (fun e=>hb e)).trans (Below.heap_setCell _ ⟨Rb,0,none⟩ _ b (fun e=>hb e))
          have su4:u3.heap.size=u4.heap.size:=by rw [<-hu4,Zb,Zb]
          replace ht:=ht.sm (w':=u4) ⟨by omega,fun b hb=>far b (by have:=hft b hb;omega)⟩
          have Bu4:Below W.heap.size W u4:=by rw [<-hu4];exact (Bu3.setCell (by show W.heap.size<=Rb;omega) _).setCell (by show W.heap.size<=Rb;omega) _
          replace hR:Two u4 Rb (.int .i64 d) (.slice (some ⟨g,0,none⟩) ts.length c) 26:=by rw [<-hu4];exact (hR.set0 _).set1 _
          first | rw [hu4] | skip
          replace hT:=hT.sm (w':=u4) (far Tb (by omega))
          refine hK.out _ _ Bu4 (fun _=>?_)
          clear hK K hu4 far x0 x1 xf0 xf1
          refine ZB [8] rfl (by kernel_rfl) (by kernel_rfl) (by kernel_rfl) Bu4 ?_
          iterate 1 (refine⟨_,rfl,?_⟩;apply Exists.intro;refine⟨Or.inl ⟨by rfl,fun w' hw'=>?_⟩,?_⟩;(focus (first | (go_simp;done) | (go_simp;with_reducible rfl)));simp only [Act.put,List.getElem_toArray,List.getElem_cons_succ,List.getElem_cons_zero,List.setIfInBounds_toArray,List.set_cons_zero,List.set_cons_succ])
          refine NoPanic.normal (NoPanic.normal ?_)
          have hTl:=hT.lt
          have hRl:=hR.lt
          go_wp2_with fail
          go_meet
          exact⟨Rb,Tb,g,c,S0,vm0,vl0,rfl,rfl,hR,hT,ht.lowm (by omega),fun b hb=>by have:=hft b hb;omega,by omega,by omega,by omega,by omega,by omega,Bu4⟩
 case rest=>
  obtain⟨R,T,g,c,S0,vm0,vl0,rfl,rfl,hR,hT,hS,hft,hRT,hWR,hWT,-,-,LW⟩:=hcut
  generalize hwc:wc=w3 at *
  clear hwc wc L0
  obtain⟨g0,c0,hgg,hg1,hg2,hgc,-⟩:=hS.nonil (by have:=H4.out;omega)
  obtain rfl:g=g0:=by injection hgg with h1 h2 h3;injection h1 with h1;injection h1
  clear hgg hgc
  have HTS3:=Za hS
  have HTO3:=Za hR
  have HTH3:=Za hT
  have HL3:=Za LW
  have HRT:=Za hRT
  have HS0:Hid ((∀i b,i<ts.length->S0 i b->b≠R/\b≠T)/\g≠R/\g≠T):=⟨fun i b hi hb=>hft b (Or.inr ⟨i,hi,hb⟩),hft g (Or.inl rfl)⟩
  clear hS hR hT LW hft hRT
  go_wp2_with fail
  go_loopg [8] N (fun gk iv wr=>∃(k:Nat) (S:Nat->Nat->Prop) (vm vl:Nat->Value) (o:Bool),k<=N/\N-k<=gk/\iv=.int .i64 k/\Zec m ts k=true/\TsR true W.heap.size wr (.slice (some ⟨g,0,none⟩) ts.length c) (ZdM m ts k) S vm vl/\(∀i b,i<ts.length->S i b->b≠R/\b≠T)/\Two wr R (.int .i64 d) (.slice (some ⟨g,0,none⟩) ts.length c) 26/\Thr wr T o (if o then Zad d else d)/\Below W.heap.size W wr)
  case atStart=>exact⟨0,_,_,_,false,Nat.zero_le _,Nat.sub_le _ _,rfl,rfl,HTS3.out,HS0.out.1,HTO3.out,HTH3.out,HL3.out⟩
  case round=>
   obtain⟨k,S,vm,vl,o,hk,hgk,rfl,hrb,hp,hsb,hto,hth,L⟩:=hrel
   have HRO:=Za (Zhs o T d wr hth)
   have HP0:=Za hp
   have HT00:=Za hto
   have HL0:=Za L
   have HSB:=Za hsb
   have HRB:=Za hrb
   clear hp hto L hsb hrb hth
   go_wp2_with fail
   refine HRO.out.mono ?_
   rintro e wp ⟨rfl,hth,hcg⟩
   have HTH:=Za hth
   have HL:Hid (Below W.heap.size W wp):=HL0.out.trans (hcg.below HL0.out.size (fun i e=>by have e':i=T:=e;omega))
   have HP:=Za (HP0.out.sm (hcg.sm (fun b hb=>(HP0.out.bnd b hb).2) (fun b hb e=>by
    have e':b=T:=e
    rcases hb with hb | ⟨i,hi,hb⟩
    · injection hb with hb;exact HS0.out.2.2 (hb.trans e')
    · exact (HSB.out i b (by rw [Zbn] at hi;exact hi) hb).2 e')))
   have HT:Hid (Two wp R (.int .i64 d) (.slice (some ⟨g,0,none⟩) ts.length c) 26):=(hcg.2.2.2.2 R HT00.out.lt (fun e=>HRT.out e)).trans HT00.out
   have HLE:=Za (Zn9 (Zad d) wp)
   rw [HLV.out] at HLE
   clear hth hcg HRO HP0 HT00 HL0
   by_cases hlt:k<N
   · have hcond:((k:Int)<=(N:Int)-1):=by omega
     go_wp2_with fail
     refine HLE.out.mono ?_
     rintro e wo ⟨rfl,hwo⟩
     subst hwo
     have hVr:=HV.out wo HL.out
     have hkt:k<ts.length:=by have:=H4.out;omega
     obtain⟨wb,wof,am,cm,al,cl,rfl,hwb,c0,c1,hmv,hcv,hcap⟩:=hVr.web hkt
     have hweb:=Zcd HOK.out.1 (n:=k) (by omega)
     have BLo:=Za ((Below.refl wo.heap.size wo).drew)
     have HCo:=Za (fun W' (L':Below wo.heap.size wo W')=>iLnkC am al at' cm cl ct (Zl ts k) m W' (hmv.next L') (hcv.next L') (HM.out W' (Zd HL.out L')) HOK.out.2.2 (hcap rfl).1 (hcap rfl).2 (HOK.out.2.1.2 k).1 (HOK.out.2.1.2 k).2 hweb)
     have hB0l:=(HT0.out.below HL.out).lt
     have hB1l:=(HT1.out.below HL.out).lt
     have HSo:Hid (∀W',Below wo.heap.size wo W'->W'.cell? ⟨w.heap.size,1,none⟩=some (.slice (some ⟨wb,wof,none⟩) ts.length cw)/\W'.cell? ⟨wb,wof+k*2,none⟩=some (.slice am (Zl ts k).1.length cm)/\W'.cell? ⟨wb,wof+k*2+1,none⟩=some (.slice al (Zl ts k).2.length cl)/\W'.cell? ⟨w.heap.size+1,0,none⟩=some (.int .i64 m.1)/\W'.cell? ⟨w.heap.size+1,1,none⟩=some (.slice at' m.2.length ct)/\(0:Int)<=(k:Int)/\(k:Int)<(ts.length:Int)):=fun W' L'=>⟨((HT0.out.below HL.out).below L').c1,(L'.cell (p:=⟨wb,wof+k*2,none⟩) hwb).trans c0,(L'.cell (p:=⟨wb,wof+k*2+1,none⟩) hwb).trans c1,((HT1.out.below HL.out).below L').c0,((HT1.out.below HL.out).below L').c1,Int.natCast_nonneg _,by omega⟩
     obtain⟨ml,hml⟩:∃ml,(Zl ts k).1.length=ml:=⟨_,rfl⟩
     obtain⟨ll,hll⟩:∃ll,(Zl ts k).2.length=ll:=⟨_,rfl⟩
     rw [hml,hll] at HCo HSo
     clear hVr hmv hcv c0 c1 hcap hweb hml hll hwb
     go_wp2_with fail
     go_cut [9,10] from 21 to 46 (fun v b wx=>∃X a1 l1 c1 a2 l2 c2 F,v=.pointer (some ⟨X,0,none⟩)/\b=.bool (Zn ((Zl ts k).1++[m]))/\Two wx X (.slice a1 l1 c1) (.slice a2 l2 c2) 47/\(Zn ((Zl ts k).1++[m])=true->OwW true F wx (.slice a1 l1 c1) (.slice a2 l2 c2) (Zhp m (Zl ts k)).1 (Zhp m (Zl ts k)).2)/\(∀b,F b->wo.heap.size<=b)/\wo.heap.size<=X/\Below wo.heap.size wo wx)
     case first=>
      refine Zt (S:=fun W'=>Below wo.heap.size wo W') (fuel:=7) [0,1,2,3,4,5] (by kernel_rfl) (by kernel_rfl) (by kernel_rfl) (by kernel_rfl) BLo.out (fun _=>?_)
      iterate 6 (refine⟨_,rfl,?_⟩;apply Exists.intro;refine⟨Or.inl ⟨by rfl,fun w' hw'=>?_⟩,?_⟩;(focus (obtain⟨e1,e2,e3,e4,e5,e6⟩:=HSo.out w' hw';first | (go_simp;done) | (go_simp;with_reducible rfl)));simp only [Act.put,List.getElem_toArray,List.getElem_cons_succ,List.getElem_cons_zero,List.setIfInBounds_toArray,List.set_cons_zero,List.set_cons_succ])
      obtain⟨wv0,hv0⟩:∃w0,wo.drew=w0:=⟨_,rfl⟩
      have B0:Below wo.heap.size wo wv0:=by rw [<-hv0];exact BLo.out
      have s0:wo.heap.size<=wv0.heap.size:=B0.size
      rw [hv0]
      clear hv0
      refine ZD 6 10 (by kernel_rfl) rfl rfl (fun K hK=>?_) (fun K hK=>?_)
      · go_simp
        refine (HCo.out wv0 B0).mono ?_
        rintro e w2 ⟨a1,l1,c1,a2,l2,c2,F,rfl,how,hF,L2⟩
        have LA:=Zd B0 L2
        refine hK.out _ _ LA (fun hS4=>?_)
        clear hK K
        refine Zo 3 [7,8,9] (by kernel_rfl) (by kernel_rfl) (by kernel_rfl) hS4 ?_
        iterate 3 (refine⟨_,rfl,?_⟩;apply Exists.intro;refine⟨Or.inl ⟨by rfl,fun w' hw'=>?_⟩,?_⟩;(focus (first | (go_simp;done) | (go_simp;with_reducible rfl)));simp only [Act.put,List.getElem_toArray,List.getElem_cons_succ,List.getElem_cons_zero,List.setIfInBounds_toArray,List.set_cons_zero,List.set_cons_succ])
        refine Zc 10 (by kernel_rfl) rfl (fun K hK=>?_)
        go_simp
        refine hK.out _ _ (LA.alloc LA.size _) (fun _=>?_)
        clear hK K
        refine Zc 11 (by kernel_rfl) rfl (fun K hK=>?_)
        go_simp
        obtain⟨wz,hwz⟩:∃wz,w2.alloc (.cells #[(.slice a1 l1 c1),(.slice a2 l2 c2)] 47)=wz:=⟨_,rfl⟩
        have LZ:Below w2.heap.size w2 wz:=by rw [<-hwz];exact (Below.refl _ _).alloc (Nat.le_refl _) _
        have HLZ:=Za (Zd LA LZ)
        have HTZ:Hid (Two wz w2.heap.size (.slice a1 l1 c1) (.slice a2 l2 c2) 47):=by show Two _ _ _ _ _;rw [<-hwz];exact Two.new w2 _ _ _
        have HOZ:=Za (fun h=>(how h).next LZ)
        have HFZ:Hid ((∀b,F b->wo.heap.size<=b)/\wo.heap.size<=w2.heap.size):=⟨fun b hb=>by have:=(hF b hb).1;omega,LA.size⟩
        rw [hwz]
        refine hK.out _ _ HLZ.out (fun hS9=>?_)
        clear hK K hwz how hF LA L2 LZ
        refine ZB [12] rfl (by kernel_rfl) (by kernel_rfl) (by kernel_rfl) hS9 ?_
        iterate 1 (refine⟨_,rfl,?_⟩;apply Exists.intro;refine⟨Or.inl ⟨by rfl,fun w' hw'=>?_⟩,?_⟩;(focus (first | (go_simp;done) | (go_simp;with_reducible rfl)));simp only [Act.put,List.getElem_toArray,List.getElem_cons_succ,List.getElem_cons_zero,List.setIfInBounds_toArray,List.set_cons_zero,List.set_cons_succ])
        refine NoPanic.normal (NoPanic.normal ?_)
        go_wp2_with fail
        go_meet
        exact⟨_,a1,l1,c1,a2,l2,c2,F,rfl,rfl,HTZ.out,HOZ.out,HFZ.out.1,HFZ.out.2,HLZ.out⟩
      · go_simp
        obtain⟨Wx,hWx⟩:∃W',wv0.alloc (.cells #[.slice none 0 0,.slice none 0 0] 47)=W':=⟨_,rfl⟩
        obtain⟨Xb,hXb⟩:∃q,wv0.heap.size=q:=⟨_,rfl⟩
        have LX:Below wo.heap.size wo Wx:=by rw [<-hWx];exact B0.alloc s0 _
        have hTX:Two Wx Xb (.slice none 0 0) (.slice none 0 0) 47:=by rw [<-hWx,<-hXb];exact Two.new wv0 _ _ _
        have hXo:wo.heap.size<=Xb:=by omega
        have hXl:=hTX.lt
        first | rw [hWx] | skip
        first | rw [hXb] | skip
        refine hK.out _ _ LX (fun _=>?_)
        clear hK K hWx
        refine Zc 6 (by kernel_rfl) rfl (fun K hK=>?_)
        go_simp
        refine (HCo.out Wx LX).mono ?_
        rintro e w2 ⟨a1,l1,c1,a2,l2,c2,F,rfl,how,hF,L2⟩
        have LA:=Zd LX L2
        have hT4:=hTX.below L2
        refine hK.out _ _ LA (fun hS4=>?_)
        clear hK K
        refine Zo 2 [7,8,9] (by kernel_rfl) (by kernel_rfl) (by kernel_rfl) hS4 ?_
        iterate 3 (refine⟨_,rfl,?_⟩;apply Exists.intro;refine⟨Or.inl ⟨by rfl,fun w' hw'=>?_⟩,?_⟩;(focus (first | (go_simp;done) | (go_simp;with_reducible rfl)));simp only [Act.put,List.getElem_toArray,List.getElem_cons_succ,List.getElem_cons_zero,List.setIfInBounds_toArray,List.set_cons_zero,List.set_cons_succ])
        have x0:=hT4.c0
        have x1:=hT4.c1
        have xf0:=hT4.frozen 0
        have xf1:=hT4.frozen 1
        refine Zc 11 (by kernel_rfl) rfl (fun K hK=>?_)
        go_simp
        have HLZ:=Za ((LA.setCell (by show wo.heap.size<=Xb;exact hXo) (.slice a1 l1 c1):Below wo.heap.size wo (w2.setCell ⟨Xb,0,none⟩ (.slice a1 l1 c1))).setCell (by show wo.heap.size<=Xb;exact hXo) (.slice a2 l2 c2):Below wo.heap.size wo ((w2.setCell ⟨Xb,0,none⟩ (.slice a1 l1 c1)).setCell ⟨Xb,1,none⟩ (.slice a2 l2 c2)))
        have HTZ:=Za ((hT4.set0 (.slice a1 l1 c1)).set1 (.slice a2 l2 c2))
        have HOZ:=Za (fun h=>(how h).sm (w':=(w2.setCell ⟨Xb,0,none⟩ (.slice a1 l1 c1)).setCell ⟨Xb,1,none⟩ (.slice a2 l2 c2)) ⟨by rw [Zb,Zb];exact Nat.le_refl _,fun b hb=>(Below.heap_setCell _ ⟨Xb,1,none⟩ _ b (fun e=>by have e':b=Xb:=e;have:=(hF b hb).1;omega)).trans (Below.heap_setCell _ ⟨Xb,0,none⟩ _ b (fun e=>by have e':b=Xb:=e;have:=(hF b hb).1;omega))⟩)
        have HFZ:Hid (∀b,F b->wo.heap.size<=b):=fun b hb=>by have:=(hF b hb).1;omega
        clear how hF
        generalize (w2.setCell ⟨Xb,0,none⟩ (.slice a1 l1 c1)).setCell ⟨Xb,1,none⟩ (.slice a2 l2 c2)=wz at *
        refine hK.out _ _ HLZ.out (fun hS9=>?_)
        clear hK K x0 x1 xf0 xf1 LA L2 hT4
        refine ZB [12] rfl (by kernel_rfl) (by kernel_rfl) (by kernel_rfl) hS9 ?_
        iterate 1 (refine⟨_,rfl,?_⟩;apply Exists.intro;refine⟨Or.inl ⟨by rfl,fun w' hw'=>?_⟩,?_⟩;(focus (first | (go_simp;done) | (go_simp;with_reducible rfl)));simp only [Act.put,List.getElem_toArray,List.getElem_cons_succ,List.getElem_cons_zero,List.setIfInBounds_toArray,List.set_cons_zero,List.set_cons_succ])
        refine NoPanic.normal (NoPanic.normal ?_)
        go_wp2_with fail
        go_meet
        exact⟨Xb,a1,l1,c1,a2,l2,c2,F,rfl,rfl,HTZ.out,HOZ.out,HFZ.out,hXo,HLZ.out⟩
     case rest=>
      obtain⟨X,a1,l1,c1,a2,l2,c2,F,rfl,rfl,hTX,hOW,hFX,hXW,LW⟩:=hcut
      generalize hwc:wc=w5 at *
      clear hwc wc HCo HSo BLo HLE
      have HL5:=Za (Zd HL.out LW)
      have HP5:=Za (HP.out.next LW)
      have HT5:=Za (HT.out.below LW)
      have HTH5:=Za (HTH.out.sm (LW.block T HTH.out.lt))
      rcases hmb:Zn ((Zl ts k).1++[m]) with _ | _
      · have t05:=HT0.out.below HL5.out
        have k0:=t05.c0
        have k1:=t05.c1
        have HCY5:=Za (HCT.out w5 HL5.out)
        have HNO:Hid (Zb2 m ts d=false):=Zjr hmb (by rw [HN.out];exact hlt)
        clear hOW hTX t05
        go_wp2_with fail
        refine HCY5.out.mono ?_
        rintro e w6 ⟨vt,rfl,hcp,L6⟩
        obtain⟨va,vc,rfl⟩:∃va vc,vt=.slice va ts.length vc:=by obtain⟨_,_,_,h⟩:=hcp;obtain⟨a,c,e,-⟩:=h.form;exact⟨a,c,e⟩
        have t26:=HT2.out.below (Zd HL5.out L6)
        have r0:=t26.c0
        have r1:=t26.c1
        have rf0:=t26.frozen 0
        have rf1:=t26.frozen 1
        have t27:=(t26.set0 (.int .i64 d)).set1 (.slice va ts.length vc)
        have q0:=t27.c0
        have q1:=t27.c1
        obtain⟨S1,vm1,vl1,hts1⟩:=hcp
        have hz5:=HL5.out.size
        have hsz:=HSZ.out
        have HTF:=Za ((hts1.sm (w':=(w6.setCell ⟨w.heap.size+1+1,0,none⟩ (.int .i64 d)).setCell ⟨w.heap.size+1+1,1,none⟩ (.slice va ts.length vc)) ⟨by rw [Zb,Zb];exact Nat.le_refl _,fun b hb=>(Below.heap_setCell _ ⟨w.heap.size+1+1,1,none⟩ _ b (fun e=>by have e':b=w.heap.size+1+1:=e;have:=(hts1.bnd b hb).1;omega)).trans (Below.heap_setCell _ ⟨w.heap.size+1+1,0,none⟩ _ b (fun e=>by have e':b=w.heap.size+1+1:=e;have:=(hts1.bnd b hb).1;omega))⟩).lowm (base':=w.heap.size) (by omega))
        have HLF:=Za (((Zd HB.out (Zd HL5.out L6)).setCell (by show w.heap.size<=w.heap.size+1+1;omega) (.int .i64 d)).setCell (by show w.heap.size<=w.heap.size+1+1;omega) (.slice va ts.length vc):Below w.heap.size w ((w6.setCell ⟨w.heap.size+1+1,0,none⟩ (.int .i64 d)).setCell ⟨w.heap.size+1+1,1,none⟩ (.slice va ts.length vc)))
        clear hts1 t26 t27 L6 k0 k1
        go_wp2_with fail
        refine bodyPost_ret (v:=.tuple #[.agg #[.int .i64 d,(.slice va ts.length vc)],.bool false]) (by simp [results,Tryz.results14,go_sem,q0,q1]) rfl ?_
        refine⟨(.slice va ts.length vc),?_,⟨S1,vm1,vl1,?_⟩,HLF.out⟩
        · unfold Zcg;rw [HNO.out];rfl
        · unfold ZaI;rw [HNO.out];exact HTF.out
      · have HOW:=Za (hOW hmb)
        have HMB:=Za hmb
        have hRL:=Zbn m ts k
        have hPL:=HP.out
        rw [<-hRL] at hPL
        have HPU:=Za (hPL.put LW (k:=k) (by rw [hRL];exact hkt) HOW.out hFX HL.out.size)
        rw [hRL] at HPU
        have hcl:∀i,i<(ZdM m ts k).length->w5.cell? ⟨g,i*2,none⟩=some (vm i)/\w5.cell? ⟨g,i*2+1,none⟩=some (vl i)/\∀j,w5.frozen? ⟨g,j,none⟩=false:=by
         obtain⟨g',c',hge,-,-,-,hcl⟩:=(HP5.out).nonil (by rw [hRL];omega)
         injection hge with h1 h2 h3
         injection h1 with h1
         injection h1 with h1
         subst h1
         exact hcl
        obtain⟨e0,e1,ef⟩:=hcl k (by rw [hRL];exact hkt)
        have f0:=ef (k*2)
        have f1:=ef (k*2+1)
        have o1:=HT5.out.c1
        have x0:=hTX.c0
        have x1:=hTX.c1
        have hi0:(0:Int)<=(k:Int):=Int.natCast_nonneg _
        have hi1:(k:Int)<(ts.length:Int):=by omega
        have hgo:g≠R:=HS0.out.2.1
        have hgT:g≠T:=HS0.out.2.2
        have HTH6:Hid (Thr ((w5.setCell ⟨g,k*2,none⟩ (.slice a1 l1 c1)).setCell ⟨g,k*2+1,none⟩ (.slice a2 l2 c2)) T true (Zad d)):=HTH5.out.sm ((Below.heap_setCell _ ⟨g,k*2+1,none⟩ _ T (fun e=>hgT e.symm)).trans (Below.heap_setCell _ ⟨g,k*2,none⟩ _ T (fun e=>hgT e.symm)))
        have HE:Hid (Two ((w5.setCell ⟨g,k*2,none⟩ (.slice a1 l1 c1)).setCell ⟨g,k*2+1,none⟩ (.slice a2 l2 c2)) R (.int .i64 d) (.slice (some ⟨g,0,none⟩) ts.length c) 26/\Below W.heap.size W ((w5.setCell ⟨g,k*2,none⟩ (.slice a1 l1 c1)).setCell ⟨g,k*2+1,none⟩ (.slice a2 l2 c2))):=
         ⟨(HT5.out.far hgo _).far hgo _,(HL5.out.setCell (by show W.heap.size<=g;exact hg1) _).setCell (by show W.heap.size<=g;exact hg1) _⟩
        have hOl:=HT.out.lt
        have hTl:=HTH.out.lt
        have HSN:Hid (∀i b,i<ts.length->ZbO S k F i b->b≠R/\b≠T):=fun i b hi hb=>by
         unfold ZbO at hb
         by_cases e:i=k
         · rw [if_pos e] at hb;have:=hFX b hb;omega
         · rw [if_neg e] at hb;exact HSB.out i b hi hb
        have HRN:=Za (Zhq HRB.out hmb)
        clear hPL hRL hcl ef hOW hTX HP HT HL HP5 HT5 HL5 LW
        go_wp2_with fail
        go_roundg (N-(k+1))
        case rel=>exact⟨k+1,_,_,_,true,by omega,Nat.le_refl _,by go_num,HRN.out,HPU.out,HSN.out,HE.out.1,HTH6.out,HE.out.2⟩
        case measure=>omega
   · obtain rfl:k=N:=by omega
     have hcond:¬((k:Int)<=(k:Int)-1):=by omega
     have HYES:Hid (Zb2 m ts d=true):=by show Zec m ts (Zdg d)=true;rw [HN.out];exact HRB.out
     have HRL:=Za (Zhs true T d wp HTH.out)
     go_wp2_with fail
     refine HLE.out.mono ?_
     rintro e wo ⟨rfl,hwo⟩
     subst hwo
     clear HLE
     go_wp2_with fail
     refine HRL.out.mono ?_
     rintro e wq ⟨rfl,hth,hcg⟩
     have hLq:Below W.heap.size W wq:=HL.out.trans (hcg.below HL.out.size (fun i e=>by have e':i=T:=e;omega))
     have hPq:=HP.out.sm (hcg.sm (fun b hb=>(HP.out.bnd b hb).2) (fun b hb e=>by
      have e':b=T:=e
      rcases hb with hb | ⟨i,hi,hb⟩
      · injection hb with hb;exact HS0.out.2.2 (hb.trans e')
      · exact (HSB.out i b (by rw [Zbn] at hi;exact hi) hb).2 e'))
     have hTq:Two wq R (.int .i64 d) (.slice (some ⟨g,0,none⟩) ts.length c) 26:=(hcg.2.2.2.2 R HT.out.lt (fun e=>HRT.out e)).trans HT.out
     have y0:=hTq.c0
     have yf:=hTq.frozen 0
     have t2:=HT2.out.below hLq
     obtain⟨wr2,hwr2⟩:∃wr2,wq.setCell ⟨R,0,none⟩ (.int .i64 (Zad d))=wr2:=⟨_,rfl⟩
     have hz:=hLq.size
     have hsz:=HSZ.out
     have hR2:Two wr2 R (.int .i64 (Zad d)) (.slice (some ⟨g,0,none⟩) ts.length c) 26:=by rw [<-hwr2];exact hTq.set0 _
     have hL2:Below W.heap.size W wr2:=by rw [<-hwr2];exact hLq.setCell (by show W.heap.size<=R;exact hWR) _
     have hP2:TsR true W.heap.size wr2 (.slice (some ⟨g,0,none⟩) ts.length c) (ZdM m ts k) S vm vl:=hPq.sm (by
      rw [<-hwr2]
      refine⟨by rw [Zb];exact Nat.le_refl _,fun b hb=>Below.heap_setCell _ ⟨R,0,none⟩ _ b (fun e=>?_)⟩
      have e':b=R:=e
      rcases hb with hb | ⟨i,hi,hb⟩
      · injection hb with hb;exact HS0.out.2.1 (hb.trans e')
      · exact (HSB.out i b (by rw [Zbn] at hi;exact hi) hb).1 e')
     have t2:=HT2.out.below hL2
     have r0:=t2.c0
     have r1:=t2.c1
     have rf0:=t2.frozen 0
     have rf1:=t2.frozen 1
     have x0:=hR2.c0
     have x1:=hR2.c1
     have t3:=(t2.set0 (.int .i64 (Zad d))).set1 (.slice (some ⟨g,0,none⟩) ts.length c)
     have q0:=t3.c0
     have q1:=t3.c1
     have hz2:=hL2.size
     have HTF:=Za ((hP2.sm (w':=(wr2.setCell ⟨w.heap.size+1+1,0,none⟩ (.int .i64 (Zad d))).setCell ⟨w.heap.size+1+1,1,none⟩ (.slice (some ⟨g,0,none⟩) ts.length c)) ⟨by rw [Zb,Zb];exact Nat.le_refl _,fun b hb=>(Below.heap_setCell _ ⟨w.heap.size+1+1,1,none⟩ _ b (fun e=>by have e':b=w.heap.size+1+1:=e;have:=(hP2.bnd b hb).1;omega)).trans (Below.heap_setCell _ ⟨w.heap.size+1+1,0,none⟩ _ b (fun e=>by have e':b=w.heap.size+1+1:=e;have:=(hP2.bnd b hb).1;omega))⟩).lowm (base':=w.heap.size) (by omega))
     have HLF:=Za (((Zd HB.out hL2).setCell (by show w.heap.size<=w.heap.size+1+1;omega) (.int .i64 (Zad d))).setCell (by show w.heap.size<=w.heap.size+1+1;omega) (.slice (some ⟨g,0,none⟩) ts.length c):Below w.heap.size w ((wr2.setCell ⟨w.heap.size+1+1,0,none⟩ (.int .i64 (Zad d))).setCell ⟨w.heap.size+1+1,1,none⟩ (.slice (some ⟨g,0,none⟩) ts.length c)))
     clear t2 t3 hth hcg hLq hPq hTq hR2 hL2 hP2 HP HT HL
     go_wp2_with fail
     try rw [hwr2]
     go_wp2_with fail
     refine bodyPost_ret (v:=.tuple #[.agg #[.int .i64 (Zad d),.slice (some ⟨g,0,none⟩) ts.length c],.bool true]) (by simp [results,Tryz.results14,go_sem,q0,q1]) rfl ?_
     refine⟨.slice (some ⟨g,0,none⟩) ts.length c,?_,⟨S,vm,vl,?_⟩,HLF.out⟩
     · unfold Zcg;rw [HYES.out];rfl
     · unfold ZaI;rw [HYES.out,HN.out];exact HTF.out
def rT(m:Mk)(ts:List Wb)(d:Int):List Wb:=if ZZ d ts=true then ZaI m ts d else []
theorem Zjg{x:Wb}(h:Zab x.1 x.2=true):ZX x.1/\ZaZ x.2:=by
 obtain⟨h1,h2,h3,h4⟩:=ZaR h
 exact⟨⟨by omega,fun i=>by have:=h2 i;omega⟩,⟨by omega,fun i=>by have:=h4 i;omega⟩⟩
theorem Zfa{m:Mk}{ts:List Wb}:∀{n:Nat},Zec m ts n=true->∀k,k<n->Zn ((Zl ts k).1++[m])=true
 | 0,_,k,hk=>by omega
 | n+1,h,k,hk=>by
   unfold Zec at h
   rw [Bool.and_eq_true] at h
   rcases Nat.lt_or_ge k n with h1 | h1
   · exact Zfa h.1 k h1
   · obtain rfl:k=n:=by omega
     exact h.2
theorem ZgF{m:Mk}{ts:List Wb}{d:Int}(hok:ZZ d ts=true)(i:Nat)(hi:i<4):Zab (Zl (ZaI m ts d) i).1 (Zl (ZaI m ts d) i).2=true:=by
 have hw:=Zcd hok (n:=i) hi
 unfold ZaI
 by_cases h:Zb2 m ts d=true
 · rw [if_pos h]
   obtain⟨-,-,hn⟩:=Zda (Zdw hok)
   rw [ZdN m ts _ (by have:=(ZaW hok).1;omega)]
   by_cases e:i<Zdg d
   · rw [if_pos e]
     exact Zdq hw (Zfa h i e) (Zb4 (ZJ hw))
   · rw [if_neg e];exact hw
 · rw [if_neg h];exact hw
theorem Ziv(m:Mk)(ts:List Wb)(d:Int):(rT m ts d).length<=4:=by
 unfold rT
 by_cases h:ZZ d ts=true
 · rw [if_pos h]
   have:=(ZaW h).1
   unfold ZaI
   by_cases h2:Zb2 m ts d=true
   · rw [if_pos h2,Zbn];omega
   · rw [if_neg h2];omega
 · rw [if_neg h];simp
theorem Zoa(m:Mk)(ts:List Wb)(d:Int):ZaB (rT m ts d):=by
 refine⟨by have:=Ziv m ts d;omega,fun i=>?_⟩
 have hz:ZX (([],[]):Wb).1/\ZaZ (([],[]):Wb).2:=⟨⟨by simp,fun i=>by simp [mat]⟩,⟨by simp,fun i=>by simp [cn]⟩⟩
 unfold rT
 by_cases h:ZZ d ts=true
 · rw [if_pos h]
   rcases Nat.lt_or_ge i 4 with h1 | h1
   · exact Zjg (ZgF h i h1)
   · have hl:(ZaI m ts d).length<=i:=by have:=Ziv m ts d;unfold rT at this;rw [if_pos h] at this;omega
     have:Zl (ZaI m ts d) i=([],[]):=by unfold Zl;rw [List.getD_eq_getElem?_getD,List.getElem?_eq_none hl];rfl
     rw [this];exact hz
 · rw [if_neg h]
   have:Zl [] i=([],[]):=by simp [Zl]
   rw [this];exact hz
def Z9(base:Nat)(w:World)(a:Option Addr)(ts:List Wb):Prop:=∀w':World,w.heap.size<=w'.heap.size->(∀b,base<=b->b<w.heap.size->w'.heap[b]? =w.heap[b]?)->Zz true w' a ts
theorem TsR.kept{o:Bool}{base:Nat}{w:World}{a:Option Addr}{n c:Nat}{ts:List Wb}{S:Nat->Nat->Prop}{vm vl:Nat->Value}(h:TsR o base w (.slice a n c) ts S vm vl):Z9 base w a ts:=fun w' hs e=>by
 obtain⟨a',c',e',-,hv⟩:=(h.sm (w':=w') ⟨hs,fun b hb=>e b (h.bnd b hb).1 (h.bnd b hb).2⟩).form
 injection e' with e1 e2 e3
 subst e1
 exact hv
theorem Zee{lo:List Mk}{x m:Mk}(hm:Zn (lo++[m])=true)(h:ZaH lo x=true):ZaH (lo++[m]) x=true:=by
 obtain⟨h1,h2⟩:=Zbg.1 h
 obtain⟨k1,-,k3⟩:=ZQ h1
 have hi:Zy lo x.1<(lo++[m]).length:=by simp;omega
 have e1:mid (lo++[m]) (Zy lo x.1)=mid lo (Zy lo x.1):=by simp [mid,List.getD,List.getElem?_append_left k1]
 have e2:mat (lo++[m]) (Zy lo x.1)=mat lo (Zy lo x.1):=by simp [mat,List.getD,List.getElem?_append_left k1]
 rw [k3] at e1
 rw [h2] at e2
 obtain⟨z1,z2⟩:=Zam hm hi
 rw [e1] at z1 z2
 exact Zbg.2 ⟨by omega,by rw [z2];exact e2⟩
theorem ZfZ{lo:List Mk}{m:Mk}(hm:Zn (lo++[m])=true):ZaH (lo++[m]) m=true:=by
 have hi:lo.length<(lo++[m]).length:=by simp
 have e1:mid (lo++[m]) lo.length=m.1:=by simp [mid,List.getD]
 have e2:mat (lo++[m]) lo.length=m.2:=by simp [mat,List.getD]
 obtain⟨z1,z2⟩:=Zam hm hi
 rw [e1] at z1 z2
 exact Zbg.2 ⟨by omega,by rw [z2];exact e2⟩
theorem Zgp{m:Mk}{ts:List Wb}{d:Int}(hok:ZZ d ts=true):ZZ (Zcg m ts d) (ZaI m ts d)=true:=by
 rcases hr:Zb2 m ts d with _ | _
 · have e1:Zcg m ts d=d:=by unfold Zcg;rw [hr];rfl
   have e2:ZaI m ts d=ts:=by unfold ZaI;rw [hr];rfl
   rw [e1,e2];exact hok
 have e1:Zcg m ts d=Zad d:=by unfold Zcg;rw [hr];rfl
 have e2:ZaI m ts d=ZdM m ts (Zdg d):=by unfold ZaI;rw [hr];rfl
 obtain⟨-,n1,n4⟩:=Zda (Zdw hok)
 have hl4:ts.length=4:=(ZaW hok).1
 have hw:=fun i hi=>ZgF (m:=m) hok i hi
 rw [e2] at hw
 rw [e1,e2]
 have hrng:=ZgD (Zdw hok)
 have hin:inR (Zad d) 0 1000002=true:=by simp [inR];omega
 unfold ZZ
 rw [hin,Zbn,hl4]
 simp only [decide_true,Bool.true_and,List.all_eq_true,List.mem_range]
 intro n hn
 unfold Za8
 rw [hw n hn,Bool.true_and,Bool.or_eq_true]
 by_cases h0:n=0
 · exact Or.inl (by simp [h0])
 refine Or.inr ?_
 have hb:=Zlx hok (n:=n-1) (by omega)
 rw [show n-1+1=n by omega] at hb
 rw [ZdN m ts _ (by omega),ZdN m ts _ (by omega)]
 rw [Zan,List.all_eq_true] at hb ⊢
 by_cases h1:n<Zdg d
 · rw [if_pos h1,if_pos (show n-1<Zdg d by omega)]
   have hm:Zn ((Zl ts (n-1)).1++[m])=true:=Zfa hr (n-1) (by omega)
   intro x hx
   rcases List.mem_append.1 hx with hx | hx
   · exact Zee hm (hb x hx)
   · rw [List.mem_singleton.1 hx];exact ZfZ hm
 · rw [if_neg h1]
   by_cases h2:n-1<Zdg d
   · rw [if_pos h2]
     have hm:Zn ((Zl ts (n-1)).1++[m])=true:=Zfa hr (n-1) h2
     exact fun x hx=>Zee hm (hb x hx)
   · rw [if_neg h2];exact hb
end Go.Proofs.YtaaagmgglolibaaGreat
namespace Go.Proofs.YtaaagmgglolibaaGreat
open Go
end Go.Proofs.YtaaagmgglolibaaGreat
namespace Go.Proofs.YtaaagmgglolibaaGreat
open Go Go.RowKit
def ZcJ:List Wb:=[([],[]),([],[]),([],[]),([],[])]
theorem Zly(i:Nat):Zl ZcJ i=([],[]):=by
 rcases i with _ | _ | _ | _ | i <;> first | rfl | simp [madeCells] | kernel_rfl
theorem newT(base:Nat)(w:World)(hb:base<=w.heap.size):ZdG base (w.alloc (.cells (madeCells #[.slice none 0 0,.slice none 0 0] 8) 47)) (.slice (some ⟨w.heap.size,0,none⟩) 4 4) ZcJ:=by
 have e:(madeCells #[.slice none 0 0,.slice none 0 0] 8).toList=ZbK (fun _=>.slice none 0 0) (fun _=>.slice none 0 0) 4:=by kernel_rfl
 have h:=World.ownsRow_lit (base:=base) (e:=47) (size:=2) w (madeCells #[.slice none 0 0,.slice none 0 0] 8) 4 hb (by unfold maxLen;omega) (by kernel_rfl)
 rw [e] at h
 refine⟨fun _ _=>False,fun _=>.slice none 0 0,fun _=>.slice none 0 0,h,fun i _=>?_,fun _ _ _ _ hf=>hf,fun _ _ _ _ _ _ hf _=>hf,by decide,fun _ _ _ hf=>hf.elim⟩
 rw [Zly]
 exact OwW.zero false _
theorem Zd6:ZZ 1 ZcJ=true:=by kernel_rfl
theorem ZeS(w:World):
 Calls Tryz.prog 24 #[] w fun e w'=>∃b,e=.returned (.agg #[.int .i64 1,.slice (some ⟨b,0,none⟩) 4 4])/\ZdG w.heap.size w' (.slice (some ⟨b,0,none⟩) 4 4) ZcJ/\Below w.heap.size w w':=by
 have hmk:∀w:World,(Instr.makeSlice 24 (.int .i64 4) (.int .i64 4)).run Tryz.prog w=.ok (.slice (some ⟨w.heap.size,0,none⟩) 4 4) (w.alloc (.cells (madeCells #[.slice none 0 0,.slice none 0 0] 8) 47)):=fun w=>Zak (P:=Tryz.prog) 24 47 (.agg #[.slice none 0 0,.slice none 0 0]) 2 48 Tryz.underlying24 Tryz.info47 .i64 .i64 4 (by omega) (by omega) w
 go_enter Tryz.func24,Tryz.ntmps24
 go_wp2_with fail
 refine bodyPost_ret (v:=.agg #[.int .i64 1,.slice (some ⟨w.heap.size+1,0,none⟩) 4 4]) (by simp [results,Tryz.results24,go_sem]) rfl ?_
 refine⟨w.heap.size+1,rfl,?_,((Below.refl w.heap.size w).alloc (Nat.le_refl _) _).alloc (by simp) _⟩
 obtain⟨W,hW⟩:∃W,w.alloc (.cells #[.int .i64 1,.slice (some ⟨w.heap.size+1,0,none⟩) 4 4] 26)=W:=⟨_,rfl⟩
 have hs:W.heap.size=w.heap.size+1:=by rw [<-hW];simp
 have h:=newT w.heap.size W (by omega)
 rw [hs,<-hW] at h
 exact h
end Go.Proofs.YtaaagmgglolibaaGreat
