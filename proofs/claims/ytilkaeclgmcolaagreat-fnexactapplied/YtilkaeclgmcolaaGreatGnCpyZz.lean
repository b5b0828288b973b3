import Derived.Test.YtilkaeclgmcolaaGreatLkWebZz
import Derived.Test.YtilkaeclgmcolaaGreatFeHelpZz
import Derived.Test.YtilkaeclgmcolaaGreatTwOkZz
import Derived.Test.YtilkaeclgmcolaaGreatTwArgsZz
import Derived.Test.YtilkaeclgmcolaaGreatMathZz
import Derived.Test.YtilkaeclgmcolaaGreatMCopyZz
import Derived.Test.YtilkaeclgmcolaaGreatMMarkZz
set_option maxRecDepth 100000
set_option maxHeartbeats 16000000
namespace Go.Proofs.YtilkaeclgmcolaaGreat
open Go Go.RowKit
theorem Zdm{base:Nat}{w w':World}{g c:Nat}{ds:List Dm}(h:Z2 base w g c ds)(e:∀b,base<=b->b<w.heap.size->w'.heap[b]? =w.heap[b]?):Z2 base w' g c ds:=
 ⟨Zaz h.1 (e g h.lt.1 h.lt.2),fun d hd=>⟨(h.2.1 d hd).1.same (e d.2.1 (h.2.1 d hd).1.lt2.1 (h.2.1 d hd).1.lt2.2),(h.2.1 d hd).2⟩,h.2.2⟩
theorem Zkb{base B1 gm c:Nat}{w:World}{ds:List Dm}{ms:List Mk}{ls:List (List Int)}{v:Value}{rs:List Rw}(h1:Z2 base w gm c ds)(h2:Zs ds=ms)(h3:Zbs B1 w v rs)(h4:Zbw rs=ls)(h5:base<=B1):OwW false (Btw base w.heap.size) w (.slice (some ⟨gm,0,none⟩) ms.length c) v ms ls:=by
 have r:ds.length=ms.length:=by rw [<-h2,ZI]
 have o:rs.length=ls.length:=by rw [<-h4,Zbw];simp
 have t:=h1.cap
 have n:∃f a,v=.slice f ls.length a/\ls.length<=a/\∀w',Sta (Btw base w.heap.size) w w'->ZS w' f ls:=by
  rcases h3 with ⟨rfl,rfl⟩ | ⟨gl,a,rfl,hm⟩
  · have:ls=[]:=by rw [<-h4];rfl
    subst this
    exact⟨none,0,rfl,Nat.le_refl _,fun _ _=>Or.inl rfl⟩
  · have m:rs.length<=a:=by
     obtain⟨-,⟨e,-⟩ | ⟨s,cap,p,e,-,-,q,-⟩⟩:=hm.row
     · cases e
     · injection e with e1 e2 e3;omega
    refine⟨some ⟨gl,0,none⟩,a,by rw [o],by omega,fun w' g=>?_⟩
    have:=(hm.same (w':=w') (fun b d=>g.2 b ⟨by have:=(hm.all b d).1;omega,(hm.all b d).2⟩)).view
    rw [h4] at this
    exact this.cview
 obtain⟨f,a,e,i,j⟩:=n
 refine⟨fun b d=>d.2,fun h=>(by cases h),⟨_,c,f,a,rfl,e,by omega,i,fun w' g=>⟨?_,j w' g⟩⟩⟩
 have:=(Zdm h1 (w':=w') (fun b l k=>g.2 b ⟨l,k⟩)).view
 rw [h2] at this
 exact this
def Zg9(base:Nat)(w:World)(v:Value)(ts:List Wb):Prop:=∃S vm vl,TsR false base w v ts S vm vl
theorem Zmv(v0:Bool)(aw:Option Addr)(cw:Nat)(d:Int)(ts:List Wb)(w:World)(hv:Zp v0 w aw ts)(hok:Zap d ts=true):
 Calls Tryz.prog 122 #[.agg #[.int .i64 d,.slice aw ts.length cw]] w fun e w'=>∃vt,e=.returned (.agg #[.int .i64 d,vt])/\Zg9 w.heap.size w' vt ts/\Below w.heap.size w w':=by
 obtain⟨j0,b9,aV,aY,b6⟩:=info_parts Tryz.info158
 obtain⟨W1,I⟩:∃W,w.alloc (.cells #[.int .i64 d,.slice aw ts.length cw] 39)=W:=⟨_,rfl⟩
 obtain⟨W2,H⟩:∃W,W1.alloc (.cells #[.int .i64 0,.slice none 0 0] 39)=W:=⟨_,rfl⟩
 obtain⟨W,hW⟩:∃W,W2.alloc (.cells #[.int .i64 d,.slice none 0 0] 39)=W:=⟨_,rfl⟩
 have s1:=salZ I
 have s2:W2.heap.size=w.heap.size+1+1:=by rw [<-H];simp [s1]
 have s3:W.heap.size=w.heap.size+1+1+1:=by rw [<-hW];simp [s2]
 have b1:=balZ I
 have b2:=balZ H
 have b3:=balZ hW
 have t0:Two W w.heap.size (.int .i64 d) (.slice aw ts.length cw) 39:=by
  have:Two W1 w.heap.size (.int .i64 d) (.slice aw ts.length cw) 39:=by rw [<-I];exact Two.new w _ _ _
  exact (this.below b2).below b3
 have t1:Two W (w.heap.size+1) (.int .i64 0) (.slice none 0 0) 39:=by
  have:Two W2 (w.heap.size+1) (.int .i64 0) (.slice none 0 0) 39:=by rw [<-H,<-s1];exact Two.new W1 _ _ _
  exact this.below b3
 have t2:Two W (w.heap.size+1+1) (.int .i64 d) (.slice none 0 0) 39:=by rw [<-hW,<-s2];exact Two.new W2 _ _ _
 have HB:=Za (Zb (Zb b1 b2) b3)
 have HT:=Za (And.intro t0 (And.intro t1 t2))
 have b0:=Za s3
 have HV:=Za hv
 have H4:=Za (ZdM hok).1
 have aT:Hid (∀i,i<ts.length->Zax (Zi ts i).1 (Zi ts i).2=true):=fun i hi=>Zd2 hok (by have:=H4.out;omega)
 have az:Hid _:=aw3Z I H hW
 have R0:=Za (TsR.start false W.heap.size W)
 clear hv hok b1 b2 b3 t0 t1 t2 s1 s2 s3 hW I H
 go_enter Tryz.func122,Tryz.ntmps122
 go_upto_region 2 with fail
 rw [az.out]
 clear az
 go_wp2_with fail
 go_loopw [4] (fun vi wr=>∃(i:Nat) (v:Value) (k:List Wb) (S:Nat->Nat->Prop) (vm vl:Nat->Value),i<=ts.length/\vi=.int .i64 i/\k=ts.take i/\k.length=i/\Two wr (w.heap.size+1+1) (.int .i64 d) v 39/\TsR false W.heap.size wr v k S vm vl/\Cgd (fun b=>b=w.heap.size+1+1) W wr) (fun vi _=>ts.length-(intOf vi).toNat)
 case atStart=>exact⟨0,_,[],_,_,_,Nat.zero_le _,rfl,rfl,rfl,HT.out.2.2,R0.out,Cgd.refl _ _⟩
 case round=>
  obtain⟨i,v,k,S,vm,vl,hi,rfl,N,A,n,s,K⟩:=hrel
  have bS:=K.2.2.2.1
  have bL:=b0.out
  have LW:Below w.heap.size w wr:=HB.out.trans (K.below (by omega) (fun b o=>by omega))
  have LX:∀b,b<W.heap.size->b≠w.heap.size+1+1->wr.heap[b]? =W.heap[b]? :=fun b D h2=>K.2.2.2.2 b D h2
  have c1:wr.cell? ⟨w.heap.size,1,none⟩=some (.slice aw ts.length cw):=(World.cell?_of_block (LX w.heap.size (by omega) (by omega))).trans HT.out.1.c1
  have ao:=Za n
  have O:=Za s
  have HK:=Za K
  have aU:=Za LW
  have p:=Za (And.intro N A)
  have bh:=Za LX
  by_cases hlt:i<ts.length
  · obtain⟨G,U,am,cm,al,cl,rfl,bN,d0,d1,aB,an,-⟩:=(HV.out.next LW).web hlt
    have bn:G<w.heap.size:=by
     obtain⟨b',o',_,_,_,_,e',bA,-⟩:=HV.out.web hlt
     injection e' with e'
     injection e' with e1 e2
     omega
    have a0:=aT.out i hlt
    have bx:=n0Z i
    have bD:(i:Int)<(ts.length:Int):=by omega
    have bV:i<4:=by have:=H4.out;omega
    obtain⟨q1,q2,q3,q4⟩:=ZaW a0
    have o1:=n.c1
    have bU:=n.lt
    have ax:=c1
    have m:Hid (∀E:World,(∀j,j<W.heap.size->E.heap[j]? =wr.heap[j]?)->E.cell? ⟨w.heap.size+1+1,1,none⟩=some v/\E.cell? ⟨w.heap.size,1,none⟩=some (.slice (some ⟨G,U,none⟩) ts.length cw)/\E.cell? ⟨G,U+i*2,none⟩=some (.slice am (Zi ts i).1.length cm)/\E.cell? ⟨G,U+i*2+1,none⟩=some (.slice al (Zi ts i).2.length cl)):=fun E h=>⟨(World.cell?_of_block (h (w.heap.size+1+1) (by omega))).trans o1,(World.cell?_of_block (h w.heap.size (by omega))).trans ax,(World.cell?_of_block (a:=⟨G,U+i*2,none⟩) (h G (by omega))).trans d0,(World.cell?_of_block (a:=⟨G,U+i*2+1,none⟩) (h G (by omega))).trans d1⟩
    have HC:=Za (Zl9 am al cm cl (Zi ts i).1 (Zi ts i).2 wr.drew (aB.next (Below.refl _ _).drew) (an.next (Below.refl _ _).drew) q1 q2 q3 q4)
    obtain⟨Z,ac⟩:∃Z,(Zi ts i).1.length=Z:=⟨_,rfl⟩
    obtain⟨Y,a9⟩:∃Y,(Zi ts i).2.length=Y:=⟨_,rfl⟩
    have a7:=Za (And.intro ac a9)
    rw [ac] at HC m d0
    rw [a9] at HC m d1
    clear ac a9 n s K LW LX aB an N A a0 q1 q2 q3 q4 o1 ax
    go_wp2_with fail
    clear c1 d0 d1
    refine Zao (S:=fun E=>E.cell? ⟨w.heap.size+1+1,1,none⟩=some v/\E.cell? ⟨w.heap.size,1,none⟩=some (.slice (some ⟨G,U,none⟩) ts.length cw)/\E.cell? ⟨G,U+i*2,none⟩=some (.slice am Z cm)/\E.cell? ⟨G,U+i*2+1,none⟩=some (.slice al Y cl)) (fuel:=4)
     [0,1,2,3,4,5,6] _ rfl (by kernel_rfl) (by kernel_rfl) (by kernel_rfl) (by kernel_rfl) (by kernel_rfl) (by kernel_rfl) (by kernel_rfl) (m.out _ (fun j _=>rfl)) (fun _=>?_)
    iterate 7 (refine⟨_,rfl,?_⟩;apply Exists.intro;refine⟨Or.inl ⟨by rfl,fun w' b4=>?_⟩,?_⟩;(focus (obtain⟨e1,e2,e3,e4⟩:=b4;go_simp<;>with_reducible rfl));simp only [Act.put,List.setIfInBounds_toArray])
    refine Zc 7 (by kernel_rfl) rfl (fun K B=>?_)
    go_simp
    refine HC.out.mono ?_
    rintro e P ⟨gm,c,dd,v3,rs,B1,rfl,ai,ar,aA,ap,-,-,av,-,L5⟩
    have aa:Below wr.heap.size wr P:=⟨L5.os,L5.tape,L5.output,L5.size,L5.block⟩
    have r:=Zkb ai ar aA ap av
    have ah:wr.drew.heap.size=wr.heap.size:=rfl
    rw [ah] at r
    rw [a7.out.1] at r
    obtain⟨bI,bK,F,C,aX,rfl,-,-,-⟩:=r.view
    rw [a7.out.2] at r
    have au:=Za r
    have ad:=Za aa
    have bF:=aa.size
    clear ai ar aA ap av L5 aa r ah aX HC
    rw [a7.out.2]
    refine B.out _ _ (m.out _ (fun j L=>ad.out.block j (by omega))) (fun _=>?_)
    clear B K
    refine Zc 8 (by kernel_rfl) rfl (fun K B=>?_)
    go_simp
    obtain⟨w7,J⟩:∃w7,P.alloc (.cells #[.slice (some ⟨gm,0,none⟩) Z c,.slice F Y C] 158)=w7:=⟨_,rfl⟩
    have aC:Hid (w7.heap[P.heap.size]? =some (.cells #[.slice (some ⟨gm,0,none⟩) Z c,.slice F Y C] 158 (0,0))):=by show _=_;rw [<-J];exact heap_alloc_new P _
    have a8:=balZ J
    have bO:=salZ J
    have l:=Za (Zb ad.out a8)
    have R:=Za (O.out.next l.out)
    have V:=Za (au.out.next a8)
    try rw [Nat.zero_add]
    try rw [J]
    clear J a8
    refine B.out _ _ (m.out _ (fun j L=>l.out.block j (by omega))) (fun _=>?_)
    clear B K
    refine Zc 9 (by kernel_rfl) rfl (fun K B=>?_)
    refine step_append_lies w7 rfl (.tmp 16) (.tmp 23) 37 rfl W.heap.size 158 j0 _ 2 48 Tryz.underlying37 b9 aV aY b6 rfl (by omega) v k.length (ZbU vm vl k.length) rfl R.out.row ⟨P.heap.size,0,none⟩ 1 1 [.slice (some ⟨gm,0,none⟩) Z c,.slice F Y C] rfl rfl (World.news_of_block (cs:=#[.slice (some ⟨gm,0,none⟩) Z c,.slice F Y C]) aC.out) (by simp [Value.oneCell']) (by omega) (by have:=p.out.2;unfold maxLen;omega) (by have:=p.out.2;omega) (by omega) w7.heap.size rfl ?_
    intro g8 c8 w8 x f u bk
    have T:=O.out.bnd
    have A:=p.out.2
    have g:∀q,v.ownBlock=some q->W.heap.size<=q/\q<wr.heap.size:=fun q e=>T q (Or.inl e)
    have X:OwW false (Btw wr.heap.size P.heap.size) w8 (.slice (some ⟨gm,0,none⟩) Z c) (.slice F Y C) (Zi ts i).1 (Zi ts i).2:=V.out.sm ⟨f.size,fun b o=>f.block b (by have:=o.2;omega) (fun e=>by have:=g b e.symm;have:=o.1;omega)⟩
    have a5:=Za (O.out.snoc (w8:=w8) (t:=Zi ts i) x (by have:=f.size;omega) (fun b o Q=>(f.block b (by omega) (fun e=>Q e.symm)).trans (l.out.block b o)) X (fun b o=>⟨o.1,fun e=>by
     rcases u with D | D
     · have:=g g8 D;have:=o.1;omega
     · have:=o.2;omega⟩) (by rcases u with D | D;exact Or.inl D;exact Or.inr (by omega)) (by omega) (by omega))
    have bC:Hid (W.heap.size<=g8):=by
     show _<=_
     rcases u with D | D
     · exact (g g8 D).1
     · omega
    have y:Hid (∀j,j<W.heap.size->w8.heap[j]? =wr.heap[j]?):=fun j L=>(f.block j (by omega) (fun e=>by have:=g j e.symm;omega)).trans (l.out.block j (by omega))
    have bz:=f.size
    have M:Hid (w8.os=wr.os/\w8.tape=wr.tape/\w8.output=wr.output):=⟨f.os.trans l.out.os,f.tape.trans l.out.tape,f.output.trans l.out.output⟩
    clear x f T g X A
    refine B.out _ _ (m.out _ y.out) (fun _=>?_)
    clear B K
    refine Zc 10 (by kernel_rfl) rfl (fun K B=>?_)
    go_simp
    refine B.out _ _ (m.out _ y.out) (fun _=>?_)
    clear B K
    refine wpAnyH_done (by kernel_rfl) ?_ _
    simp only [Exit.then]
    have t8:Two w8 (w.heap.size+1+1) (.int .i64 d) v 39:=(y.out (w.heap.size+1+1) (by omega)).trans ao.out
    have u1:=t8.c1
    have bH:=t8.frozen 1
    have aN:=Za (t8.set1 (.slice (some ⟨g8,0,none⟩) (k.length+1) c8))
    have ba:=Za (a5.out.sm (w':=w8.setCell ⟨w.heap.size+1+1,1,none⟩ (.slice (some ⟨g8,0,none⟩) (k.length+1) c8)) ⟨by rw [Ze];exact Nat.le_refl _,fun b o=>Below.heap_setCell w8 ⟨w.heap.size+1+1,1,none⟩ _ b (fun e=>by have D:=(a5.out.bnd b (by simpa using o)).1;have e':b=w.heap.size+1+1:=e;omega)⟩)
    have aZ:Hid (Cgd (fun b=>b=w.heap.size+1+1) W (w8.setCell ⟨w.heap.size+1+1,1,none⟩ (.slice (some ⟨g8,0,none⟩) (k.length+1) c8))):=⟨M.out.1.trans HK.out.1,M.out.2.1.trans HK.out.2.1,M.out.2.2.trans HK.out.2.2.1,by rw [Ze];omega,fun j L Q=>(Below.heap_setCell w8 ⟨w.heap.size+1+1,1,none⟩ _ j (fun e=>Q e)).trans ((y.out j L).trans (HK.out.2.2.2.2 j L Q))⟩
    clear m ad l R aC a5 y M t8 au V
    go_wp2_with fail
    refine NoPanic.normal ?_
    go_wp2_with fail
    go_roundw
    case rel=>exact⟨i+1,_,k++[Zi ts i],_,_,_,by omega,by go_num,by rw [p.out.1,List.take_add_one];congr 1;simp [Zi,List.getD,hlt],by simp [p.out.2],aN.out,ba.out,aZ.out⟩
    case measure=>simp [intOf];omega
  · obtain rfl:i=ts.length:=by omega
    have aP:k=ts:=by rw [N,List.take_length]
    subst aP
    obtain⟨a,cc,rfl,-,-⟩:=s.form
    have p1:Two wr (w.heap.size+1) (.int .i64 0) (.slice none 0 0) 39:=(LX (w.heap.size+1) (by omega) (by omega)).trans HT.out.2.1
    have q0:=p1.c0
    have q1:=p1.c1
    have bT:=p1.frozen 0
    have bQ:=p1.frozen 1
    have o0:=n.c0
    have o1:=n.c1
    have p2:=(p1.set0 (.int .i64 d)).set1 (.slice a k.length cc)
    have r0:=p2.c0
    have r1:=p2.c1
    obtain⟨wz,z⟩:∃wz,(wr.setCell ⟨w.heap.size+1,0,none⟩ (.int .i64 d)).setCell ⟨w.heap.size+1,1,none⟩ (.slice a k.length cc)=wz:=⟨_,rfl⟩
    have a1:∀j,j≠w.heap.size+1->wz.heap[j]? =wr.heap[j]? :=fun j L=>by
     rw [<-z,Below.heap_setCell _ ⟨w.heap.size+1,1,none⟩ _ j (fun e=>L e),Below.heap_setCell _ ⟨w.heap.size+1,0,none⟩ _ j (fun e=>L e)]
    have be:wz.heap.size=wr.heap.size:=by rw [<-z];simp [World.setCell]
    have LE:Below w.heap.size w wz:=by rw [<-z];exact (LW.setCell (by show w.heap.size<=w.heap.size+1;omega) _).setCell (by show w.heap.size<=w.heap.size+1;omega) _
    have hF:=s.sm (w':=wz) ⟨by omega,fun b o=>a1 b (fun e=>by have:=(s.bnd b o).1;omega)⟩
    have HF:Hid (TsR false w.heap.size wz (.slice a k.length cc) k S vm vl):=⟨ZeK hF.row (by omega),hF.webs,hF.off,hF.apart,hF.four,fun j b L o=>by have:=hF.low j b L o;omega⟩
    have aS:=Za LE
    have b7:=Za z
    have bM:¬((k.length:Int)<(k.length:Int)):=by omega
    clear s n K LW LX p1 p2 a1 be LE hF z ao O HK aU p bh N A
    go_wp2_with fail
    refine bodyPost_ret (v:=.agg #[.int .i64 d,.slice a k.length cc]) (by simp [results,Tryz.results122,go_sem,r0,r1]) rfl ?_
    rw [b7.out]
    exact⟨_,rfl,⟨S,vm,vl,HF.out⟩,aS.out⟩
def Zh4(m:Mk)(x:Wb):Wb:=(x.1++[m],ZcY x.1 x.2 (Zcg x.1 m.2 3) m.1)
def ZeW(m:Mk)(ts:List Wb):Nat->List Wb
 | 0=>ts
 | k+1=>(ZeW m ts k).set k (Zh4 m (Zi ts k))
def Zeq(m:Mk)(ts:List Wb):Nat->Bool
 | 0=>true
 | k+1=>Zeq m ts k && Zt ((Zi ts k).1++[m])
theorem ZbN(m:Mk)(ts:List Wb):∀k,(ZeW m ts k).length=ts.length
 | 0=>rfl
 | k+1=>by rw [ZeW,List.length_set,ZbN m ts k]
theorem Zkc{m:Mk}{ts:List Wb}{k n:Nat}(h:Zt ((Zi ts k).1++[m])=false)(hk:k<n):Zeq m ts n=false:=by
 induction n with
 | zero=>omega
 | succ n ih=>
   unfold Zeq
   rcases Nat.lt_or_ge k n with h1 | h1
   · rw [ih h1];rfl
   · obtain rfl:k=n:=by omega
     rw [h];simp
theorem Zh5{m:Mk}{ts:List Wb}{k:Nat}(h1:Zeq m ts k=true)(h:Zt ((Zi ts k).1++[m])=true):Zeq m ts (k+1)=true:=by
 unfold Zeq;rw [h1,h];rfl
theorem Zh6{ts:List Wb}{k:Nat}(x:Wb)(hk:k<ts.length)(i:Nat):Zi (ts.set k x) i=if i=k then x else Zi ts i:=by
 unfold Zi
 rw [List.getD_eq_getElem?_getD,List.getD_eq_getElem?_getD,List.getElem?_set]
 by_cases e:i=k
 · subst e;simp [hk]
 · rw [if_neg (fun h=>e h.symm),if_neg e]
theorem Zkd(m:Mk)(ts:List Wb):∀k,k<=ts.length->∀i,Zi (ZeW m ts k) i=if i<k then Zh4 m (Zi ts i) else Zi ts i
 | 0,_,i=>by rw [ZeW,if_neg (by omega)]
 | k+1,hk,i=>by
   rw [ZeW,Zh6 _ (by rw [ZbN];omega),Zkd m ts k (by omega) i]
   by_cases e:i=k
   · rw [if_pos e,if_pos (by omega),e]
   · rw [if_neg e]
     by_cases e2:i<k
     · rw [if_pos e2,if_pos (by omega)]
     · rw [if_neg e2,if_neg (by omega)]
theorem Zmw(vm vl:Nat->Value)(n k:Nat)(xm xl:Value):((ZbU vm vl n).set (k*2) xm).set (k*2+1) xl=ZbU (ZaX vm k xm) (ZaX vl k xl) n:=by
 refine List.ext_getElem (by simp [ZbU]) (fun j f g=>?_)
 have d:(ZbU (ZaX vm k xm) (ZaX vl k xl) n)[j]=Za4 (ZaX vm k xm) (ZaX vl k xl) j:=by simp [ZbU]
 rw [d,List.getElem_set,List.getElem_set]
 have e:∀h,(ZbU vm vl n)[j]'h=Za4 vm vl j:=fun h=>by simp [ZbU]
 unfold Za4 ZaX
 by_cases a:k*2+1=j
 · rw [if_pos a,if_neg (by omega),if_pos (by omega)]
 · rw [if_neg a]
   by_cases b:k*2=j
   · rw [if_pos b,if_pos (by omega),if_pos (by omega)]
   · rw [if_neg b,e]
     unfold Za4
     by_cases c:j % 2=0
     · rw [if_pos c,if_pos c,if_neg (by omega)]
     · rw [if_neg c,if_neg c,if_neg (by omega)]
theorem TsR.lowm{o:Bool}{base base':Nat}{w:World}{v:Value}{ts:List Wb}{S:Nat->Nat->Prop}{vm vl:Nat->Value}(h:TsR o base w v ts S vm vl)(hb:base'<=base):TsR o base' w v ts S vm vl:=
 ⟨⟨h.row.1,h.row.2.imp id fun ⟨g,cap,cur,h1,h2,h3⟩=>⟨g,cap,cur,h1,Nat.le_trans hb h2,h3⟩⟩,h.webs,h.off,h.apart,h.four,fun i b hi hs=>Nat.le_trans hb (h.low i b hi hs)⟩
theorem TsR.nonil{o:Bool}{base:Nat}{w:World}{v:Value}{ts:List Wb}{S:Nat->Nat->Prop}{vm vl:Nat->Value}(h:TsR o base w v ts S vm vl)(hn:0<ts.length):∃g c,v=.slice (some ⟨g,0,none⟩) ts.length c/\base<=g/\g<w.heap.size/\ts.length<=c/\∀i,i<ts.length->w.cell? ⟨g,i*2,none⟩=some (vm i)/\w.cell? ⟨g,i*2+1,none⟩=some (vl i)/\(∀j,w.frozen? ⟨g,j,none⟩=false):=by
 obtain⟨n,⟨rfl,p⟩ | ⟨g,cap,k,rfl,b,d,f,q⟩⟩:=h.row
 · omega
 · have a:=h.row
   refine⟨g,cap,rfl,b,(World.ownsRow.lt a g rfl).2,f,fun i m=>?_⟩
   have c0:=World.ownsRow.cellAt a (i*2) (by omega)
   have c1:=World.ownsRow.cellAt a (i*2+1) (by omega)
   rw [Zha (by omega)] at c0 c1
   have l:Za4 vm vl (i*2)=vm i:=by unfold Za4;rw [if_pos (by omega),show i*2 / 2=i by omega]
   have e:Za4 vm vl (i*2+1)=vl i:=by unfold Za4;rw [if_neg (by omega),show (i*2+1) / 2=i by omega]
   rw [l] at c0
   rw [e] at c1
   exact⟨c0,c1,fun j=>by simp [World.frozen?,d]⟩
theorem TsR.put{o:Bool}{base g c:Nat}{w w':World}{ts:List Wb}{S:Nat->Nat->Prop}{vm vl:Nat->Value}(h:TsR o base w (.slice (some ⟨g,0,none⟩) ts.length c) ts S vm vl)(L:Below w.heap.size w w'){k:Nat}(hk:k<ts.length){F:Nat->Prop}{xm xl:Value}{t:Wb}(hw:OwW o F w' xm xl t.1 t.2)(hF:∀b,F b->w.heap.size<=b)(hbs:base<=w.heap.size):
 TsR o base ((w'.setCell ⟨g,k*2,none⟩ xm).setCell ⟨g,k*2+1,none⟩ xl) (.slice (some ⟨g,0,none⟩) ts.length c) (ts.set k t) (ZcA S k F) (ZaX vm k xm) (ZaX vl k xl):=by
 have y:=(h.bnd g (Or.inl rfl)).2
 have u:=h.next L
 have far:∀b,b≠g->((w'.setCell ⟨g,k*2,none⟩ xm).setCell ⟨g,k*2+1,none⟩ xl).heap[b]? =w'.heap[b]? :=fun b d=>(Below.heap_setCell _ ⟨g,k*2+1,none⟩ xl b (fun e=>d e)).trans (Below.heap_setCell _ ⟨g,k*2,none⟩ xm b (fun e=>d e))
 have s:w'.heap.size<=((w'.setCell ⟨g,k*2,none⟩ xm).setCell ⟨g,k*2+1,none⟩ xl).heap.size:=by rw [Ze,Ze];exact Nat.le_refl _
 have l:(ts.set k t).length=ts.length:=List.length_set ..
 refine⟨?_,fun i a=>?_,fun i a q e=>?_,fun i j a n p b=>?_,by rw [l];exact h.four,fun i b a m=>?_⟩
 · have x:=(World.ownsRow.stored u.row (k*2) xm).1
   have v:=(World.ownsRow.stored x (k*2+1) xl).1
   rw [Zmw] at v
   rw [l]
   exact v
 · rw [l] at a
   rw [Zh6 t hk]
   unfold ZcA ZaX
   by_cases e:i=k
   · rw [if_pos e,if_pos e,if_pos e,if_pos e]
     exact hw.sm ⟨s,fun b d=>far b (fun r=>by have:=hF b d;omega)⟩
   · rw [if_neg e,if_neg e,if_neg e,if_neg e]
     exact (u.webs i a).sm ⟨s,fun b d=>far b (fun r=>h.off i a g rfl (r ▸ d))⟩
 · rw [l] at a
   injection e with e
   subst e
   unfold ZcA
   by_cases e:i=k
   · rw [if_pos e]
     exact fun d=>by have z:w.heap.size<=g:=hF _ d;omega
   · rw [if_neg e]
     exact h.off i a _ rfl
 · rw [l] at a n
   unfold ZcA
   by_cases e:i=k
   · rw [if_pos e,if_neg (by omega)]
     exact fun d f=>by have:=hF b d;have:=(h.webs j n).bnd b f;omega
   · rw [if_neg e]
     by_cases e':j=k
     · rw [if_pos e']
       exact fun d f=>by have:=hF b f;have:=(h.webs i a).bnd b d;omega
     · rw [if_neg e']
       exact h.apart i j a n p b
 · rw [l] at a
   unfold ZcA at m
   by_cases e:i=k
   · rw [if_pos e] at m;have:=hF b m;omega
   · rw [if_neg e] at m;exact h.low i b a m
theorem ZeN{base base':Nat}{w:World}{g c:Nat}{ds:List Dm}(h:Z2 base w g c ds)(hb:base'<=base):Z2 base' w g c ds:=
 have ow:∀{e:TypeId} {size n:Nat} {v:Value} {xs:List Value},w.ownsRow base e size v n xs->w.ownsRow base' e size v n xs:=fun h=>⟨h.1,h.2.imp id fun ⟨g,cap,cur,h1,h2,h3⟩=>⟨g,cap,cur,h1,Nat.le_trans hb h2,h3⟩⟩
 ⟨ow h.1,fun d hd=>⟨ow (h.2.1 d hd).1,(h.2.1 d hd).2⟩,h.2.2⟩
def LnkC(o:Bool)(f:Nat):Prop:=∀(am al at':Option Addr) (cm cl ct:Nat) (x:Wb) (m:Mk) (w:World),Zo w am x.1->ZS w al x.2->Zy w at' m.2->m.2.length<=1048576->x.1.length<=cm->x.2.length<=cl->ZL x.1->Z7 x.2->Zax x.1 x.2=true->
 Calls Tryz.prog f #[.agg #[.slice am x.1.length cm,.slice al x.2.length cl],.agg #[.int .i64 m.1,.slice at' m.2.length ct],.int .i64 3] w fun e w'=>∃(a1:Option Addr) (l1 c1:Nat) (a2:Option Addr) (l2 c2:Nat) (F:Nat->Prop),e=.returned (.tuple #[.agg #[.slice a1 l1 c1,.slice a2 l2 c2],.bool (Zt (x.1++[m]))])/\(Zt (x.1++[m])=true->OwW o F w' (.slice a1 l1 c1) (.slice a2 l2 c2) (Zh4 m x).1 (Zh4 m x).2)/\(∀b,F b->w.heap.size<=b/\b<w'.heap.size)/\Below w.heap.size w w'
theorem sLnkC:LnkC false 164:=by
 intro E q f z F C x m w y u G o _ _ _ _ p
 refine (Zo6 E q f z F C x.1 x.2 m 3 w y u G o p).mono ?_
 rintro e t (⟨l,rfl,L⟩ | ⟨l,I,v,s,n,rfl,A,L⟩)
 · rw [l]
   exact⟨_,_,_,_,_,_,fun _=>False,rfl,(by intro h;cases h),(fun b h=>h.elim),L⟩
 · rw [l]
   refine⟨_,_,_,_,_,_,Btw w.heap.size t.heap.size,rfl,fun _=>?_,fun b h=>h,L⟩
   obtain⟨B,H,J,c,d,r,D,i,g,a,-⟩:=A
   have k:c.length=x.2.length+1:=by
    have d:(Zbw c).length=c.length:=Zh3 c
    rw [a,Zd3] at d
    rw [Zco p];exact d.symm
   have j:=Zkb (base:=w.heap.size) (ZeN D d) i (Or.inr ⟨s,n,rfl,g⟩) a r
   rw [k] at j
   rw [List.length_append,List.length_singleton] at j
   exact j
theorem iLnkC:LnkC true 172:=by
 intro D t f A E B x m w z y F q l o k p j
 refine (ZnV D t f A E B x.1 x.2 m 3 w z y k p l o F q).mono ?_
 rintro e u ⟨v,rfl,n,L⟩
 have a:ZaJ x.1 x.2 m 3=Zt (x.1++[m]):=by unfold ZaJ;rw [j];simp [Zgr]
 rw [a]
 rcases n with ⟨hb,rfl⟩ | ⟨hb,g,gl,rfl,n⟩
 · rw [a] at hb
   rw [hb]
   exact⟨_,_,_,_,_,_,fun _=>False,rfl,(by intro h;cases h),(fun b h=>h.elim),L⟩
 · refine⟨_,_,_,_,_,_,Btw w.heap.size u.heap.size,rfl,fun G=>?_,fun b h=>h,L⟩
   rw [a] at hb
   have c:(ZcY x.1 x.2 (Zcg x.1 m.2 3) m.1).length=x.1.length+1:=Zd3 ..
   have r:Zax (x.1++[m]) (ZcY x.1 x.2 (Zcg x.1 m.2 3) m.1)=true:=ZfA j hb (ZcM (ZY j))
   obtain⟨-,-,C,d⟩:=ZaW r
   have s:=ZdN.ow (ls:=ZcY x.1 x.2 (Zcg x.1 m.2 3) m.1) (by rw [c];exact n) hb (by rw [c,List.length_append,List.length_singleton]) (by omega) (fun i=>by have:=d i;omega)
   rw [c,List.length_append,List.length_singleton] at s
   exact s
def ZfB(d:Int):Nat:=(Zh7 (Zan d)).toNat+1
def ZcX(m:Mk)(ts:List Wb)(d:Int):Bool:=Zeq m ts (ZfB d)
def ZfC(m:Mk)(ts:List Wb)(d:Int):Int:=if ZcX m ts d=true then Zan d else d
def Zb2(m:Mk)(ts:List Wb)(d:Int):List Wb:=if ZcX m ts d=true then ZeW m ts (ZfB d) else ts
theorem Ze8{d:Int}(h:inR d 0 1000002=true):Zh7 (Zan d)=((ZfB d:Nat):Int)-1/\1<=ZfB d/\ZfB d<=4:=by
 have b:inR (Zan d) 0 1000002=true:=by have:=Zke h;simp [inR];omega
 have a:=Zhb b
 have c:=ZnW 3 (Zan d)
 unfold ZfB
 rw [a]
 omega
theorem Zhc{d:Int}{ts:List Wb}(h:Zap d ts=true):inR d 0 1000002=true:=by
 unfold Zap at h;rw [Bool.and_eq_true] at h;exact h.1
theorem Zmx(aw at':Option Addr)(cw ct:Nat)(d:Int)(ts:List Wb)(m:Mk)(w:World)(hv:Zp true w aw ts)(ha:Zy w at' m.2)(hal:m.2.length<=1048576)(hok:Zap d ts=true)(hsm:Z1 ts):
 Calls Tryz.prog 123 #[.agg #[.int .i64 d,.slice aw ts.length cw],.agg #[.int .i64 m.1,.slice at' m.2.length ct]] w fun e w'=>∃vt,e=.returned (.tuple #[.agg #[.int .i64 (ZfC m ts d),vt],.bool (ZcX m ts d)])/\Zg9 w.heap.size w' vt (Zb2 m ts d)/\Below w.heap.size w w':=by
 obtain⟨W1,U⟩:∃W,w.alloc (.cells #[.int .i64 d,.slice aw ts.length cw] 39)=W:=⟨_,rfl⟩
 obtain⟨W2,Q⟩:∃W,W1.alloc (.cells #[.int .i64 m.1,.slice at' m.2.length ct] 161)=W:=⟨_,rfl⟩
 obtain⟨W,hW⟩:∃W,W2.alloc (.cells #[.int .i64 0,.slice none 0 0] 39)=W:=⟨_,rfl⟩
 have s1:=salZ U
 have s2:W2.heap.size=w.heap.size+1+1:=by rw [<-Q];simp [s1]
 have s3:W.heap.size=w.heap.size+1+1+1:=by rw [<-hW];simp [s2]
 have b1:=balZ U
 have b2:=balZ Q
 have b3:=balZ hW
 have t0:Two W w.heap.size (.int .i64 d) (.slice aw ts.length cw) 39:=by
  have:Two W1 w.heap.size (.int .i64 d) (.slice aw ts.length cw) 39:=by rw [<-U];exact Two.new w _ _ _
  exact (this.below b2).below b3
 have t1:Two W (w.heap.size+1) (.int .i64 m.1) (.slice at' m.2.length ct) 161:=by
  have:Two W2 (w.heap.size+1) (.int .i64 m.1) (.slice at' m.2.length ct) 161:=by rw [<-Q,<-s1];exact Two.new W1 _ _ _
  exact this.below b3
 have t2:Two W (w.heap.size+1+1) (.int .i64 0) (.slice none 0 0) 39:=by rw [<-hW,<-s2];exact Two.new W2 _ _ _
 have hB:=Zb (Zb b1 b2) b3
 have HB:=Za hB
 have HV:=Za (fun o (L:Below W.heap.size W o)=>hv.next (Zb hB L))
 have HM:=Za (fun o (L:Below W.heap.size W o)=>(ha.below (Nat.le_refl _) hB).below (Nat.le_refl _) L)
 have ab:=Za t0
 have aC:=Za t1
 have bh:=Za t2
 have ba:=Za s3
 have a9:=Za (And.intro hok (And.intro hsm hal))
 obtain⟨ar,ch,cd⟩:=Ze8 (Zhc hok)
 have H4:Hid (ts.length=4):=(ZdM hok).1
 have bs:=Za ar
 have aW:=Za (fun o (L:Below W.heap.size W o)=>Zmv true aw cw d ts o (hv.next (Zb hB L)) hok)
 have k0:=t0.c0
 have k1:=t0.c1
 have bj:Hid _:=aw3Z U Q hW
 obtain⟨N,hN⟩:∃N,ZfB d=N:=⟨_,rfl⟩
 have HN:=Za hN
 rw [hN] at ar ch cd bs
 clear hv ha hok hsm hal hB b1 b2 b3 t0 t1 t2 s1 s2 s3 hW U Q hN ar
 go_enter Tryz.func123,Tryz.ntmps123
 go_upto_region 1 with fail
 rw [bj.out]
 clear bj
 go_wp2_with fail
 refine (aW.out W (Below.refl _ _)).mono ?_
 rintro e w1 ⟨vt,rfl,⟨S0,bS,cj,ht⟩,L1⟩
 clear k0 k1
 obtain⟨g,c,rfl,aU,bG,cN,-⟩:=ht.nonil (by have:=H4.out;omega)
 have aL:∀i b,i<ts.length->S0 i b->b<w1.heap.size:=fun i b hi f=>(ht.webs i hi).bnd b f
 obtain⟨u,a3⟩:∃u,w1.alloc (.cells #[.int .i64 d,.slice (some ⟨g,0,none⟩) ts.length c] 39)=u:=⟨_,rfl⟩
 have Y:=balZ a3
 have tO:Two u w1.heap.size (.int .i64 d) (.slice (some ⟨g,0,none⟩) ts.length c) 39:=by rw [<-a3];exact Two.new w1 _ _ _
 obtain⟨O,hO⟩:∃O,w1.heap.size=O:=⟨_,rfl⟩
 have cg:W.heap.size<=O:=by have:=L1.size;omega
 have aA:=Za (Zb L1 Y)
 have aS:=Za (ht.next Y)
 have b5:=Za a3
 rw [hO] at tO aL bG
 have b8:=Za tO
 have a8:Hid ((∀i b,i<ts.length->S0 i b->b≠O)/\g≠O):=⟨fun i b hi f=>by have:=aL i b hi f;omega,by omega⟩
 have k0:=(ab.out.below aA.out).c0
 have o0:=tO.c0
 have ci:=tO.frozen 0
 have bo:=Za (ZnX d u)
 clear ht L1 Y a3 aL tO
 go_upto_region 2 with fail
 first | rw [b5.out] | skip
 first | rw [hO] | skip
 clear b5
 go_wp2_with fail
 refine bo.out.mono ?_
 rintro e aT ⟨rfl,bq⟩
 subst bq
 obtain⟨w3,V⟩:∃w3,aT.setCell ⟨O,0,none⟩ (.int .i64 (Zan d))=w3:=⟨_,rfl⟩
 have bg:Hid (Two w3 O (.int .i64 (Zan d)) (.slice (some ⟨g,0,none⟩) ts.length c) 39):=by show Two _ _ _ _ _;rw [<-V];exact b8.out.set0 _
 have bV:Hid (Below W.heap.size W w3):=by show Below _ _ _;rw [<-V];exact aA.out.setCell (by show W.heap.size<=O;exact cg) _
 have bk:Hid (TsR false W.heap.size w3 (.slice (some ⟨g,0,none⟩) ts.length c) ts S0 bS cj):=aS.out.sm (by
  rw [<-V]
  refine⟨by rw [Ze];exact Nat.le_refl _,fun b f=>Below.heap_setCell _ ⟨O,0,none⟩ _ b (fun e=>?_)⟩
  have e':b=O:=e
  rcases f with f | ⟨i,hi,f⟩
  · injection f with f;exact a8.out.2 (f.trans e')
  · exact a8.out.1 i b hi f e')
 clear k0 hO
 go_wp2_with fail
 first | rw [V] | skip
 clear V b8 aA aS bo o0 ci
 clear aT
 go_loopg [7] N (fun gk iv wr=>∃(k:Nat) (S:Nat->Nat->Prop) (vm vl:Nat->Value),k<=N/\N-k<=gk/\iv=.int .i64 k/\Zeq m ts k=true/\TsR false W.heap.size wr (.slice (some ⟨g,0,none⟩) ts.length c) (ZeW m ts k) S vm vl/\(∀i b,i<ts.length->S i b->b≠O)/\Two wr O (.int .i64 (Zan d)) (.slice (some ⟨g,0,none⟩) ts.length c) 39/\Below W.heap.size W wr)
 case atStart=>exact⟨0,_,_,_,Nat.zero_le _,Nat.sub_le _ _,rfl,rfl,bk.out,a8.out.1,bg.out,bV.out⟩
 case round=>
  obtain⟨k,S,vm,vl,hk,cF,rfl,bw,hp,b9,an,L⟩:=hrel
  have bF:=an.c0
  have a4:=Za (Zpf (Zan d) wr)
  rw [bs.out] at a4
  have HP:=Za hp
  have HT:=Za an
  have I:=Za L
  have c9:=Za b9
  have aY:=Za bw
  clear hp an L b9 bw
  by_cases hlt:k<N
  · have ak:((k:Int)<=(N:Int)-1):=by omega
    go_wp2_with fail
    refine a4.out.mono ?_
    rintro e l ⟨rfl,aF⟩
    subst aF
    have b4:=HV.out l I.out
    have aJ:k<ts.length:=by have:=H4.out;omega
    obtain⟨wb,J,am,cm,al,cl,rfl,aH,c0,c1,bt,aZ,T⟩:=b4.web aJ
    have ah:=Zd2 a9.out.1 (n:=k) (by omega)
    have au:=Za ((Below.refl l.heap.size l).drew)
    have ac:=Za (fun o (L':Below l.heap.size l o)=>sLnkC am al at' cm cl ct (Zi ts k) m o (bt.next L') (aZ.next L') (HM.out o (Zb I.out L')) a9.out.2.2 (T rfl).1 (T rfl).2 (a9.out.2.1.2 k).1 (a9.out.2.1.2 k).2 ah)
    have cD:=(ab.out.below I.out).lt
    have cr:=(aC.out.below I.out).lt
    have aK:Hid (∀o,Below l.heap.size l o->o.cell? ⟨w.heap.size,1,none⟩=some (.slice (some ⟨wb,J,none⟩) ts.length cw)/\o.cell? ⟨wb,J+k*2,none⟩=some (.slice am (Zi ts k).1.length cm)/\o.cell? ⟨wb,J+k*2+1,none⟩=some (.slice al (Zi ts k).2.length cl)/\o.cell? ⟨w.heap.size+1,0,none⟩=some (.int .i64 m.1)/\o.cell? ⟨w.heap.size+1,1,none⟩=some (.slice at' m.2.length ct)/\(0:Int)<=(k:Int)/\(k:Int)<(ts.length:Int)):=fun o L'=>⟨((ab.out.below I.out).below L').c1,(L'.cell (p:=⟨wb,J+k*2,none⟩) aH).trans c0,(L'.cell (p:=⟨wb,J+k*2+1,none⟩) aH).trans c1,((aC.out.below I.out).below L').c0,((aC.out.below I.out).below L').c1,Int.natCast_nonneg _,by omega⟩
    obtain⟨ml,bm⟩:∃ml,(Zi ts k).1.length=ml:=⟨_,rfl⟩
    obtain⟨ll,bf⟩:∃ll,(Zi ts k).2.length=ll:=⟨_,rfl⟩
    rw [bm,bf] at ac aK
    clear b4 bt aZ c0 c1 T ah bF bm bf aH
    go_wp2_with fail
    go_cut [8,9] from 16 to 41 (fun v b wx=>∃X r t c1 y x c2 F,v=.pointer (some ⟨X,0,none⟩)/\b=.bool (Zt ((Zi ts k).1++[m]))/\Two wx X (.slice r t c1) (.slice y x c2) 158/\(Zt ((Zi ts k).1++[m])=true->OwW false F wx (.slice r t c1) (.slice y x c2) (Zh4 m (Zi ts k)).1 (Zh4 m (Zi ts k)).2)/\(∀b,F b->l.heap.size<=b)/\l.heap.size<=X/\Below l.heap.size l wx)
    case first=>
     refine Zl (S:=fun o=>Below l.heap.size l o) (fuel:=7) [0,1,2,3,4,5] (by kernel_rfl) (by kernel_rfl) (by kernel_rfl) (by kernel_rfl) au.out (fun _=>?_)
     iterate 6 (refine⟨_,rfl,?_⟩;apply Exists.intro;refine⟨Or.inl ⟨by rfl,fun w' P=>?_⟩,?_⟩;(focus (obtain⟨e1,e2,e3,e4,e5,e6⟩:=aK.out w' P;go_simp<;>with_reducible rfl));simp only [Act.put,tkgZ])
     obtain⟨G,aG⟩:∃w0,l.drew=w0:=⟨_,rfl⟩
     have B0:Below l.heap.size l G:=by rw [<-aG];exact au.out
     have s0:l.heap.size<=G.heap.size:=B0.size
     rw [aG]
     clear aG
     refine ZA 6 10 (by kernel_rfl) rfl rfl (fun K s=>?_) (fun K s=>?_)
     · go_simp
       refine (ac.out G B0).mono ?_
       rintro e u ⟨r,t,c1,y,x,c2,F,rfl,M,hF,Y⟩
       have Z:=Zb B0 Y
       refine s.out _ _ Z (fun ax=>?_)
       clear s K
       refine Zz 3 [7,8,9] (by kernel_rfl) (by kernel_rfl) (by kernel_rfl) ax ?_
       iterate 3 (refine⟨_,rfl,?_⟩;apply Exists.intro;refine⟨Or.inl ⟨by rfl,fun w' P=>?_⟩,?_⟩;(focus (go_simp<;>with_reducible rfl));simp only [Act.put,tkgZ])
       refine Zc 10 (by kernel_rfl) rfl (fun K s=>?_)
       go_simp
       refine s.out _ _ (Z.alloc Z.size _) (fun _=>?_)
       clear s K
       refine Zc 11 (by kernel_rfl) rfl (fun K s=>?_)
       go_simp
       obtain⟨wz,a0⟩:∃wz,u.alloc (.cells #[(.slice r t c1),(.slice y x c2)] 158)=wz:=⟨_,rfl⟩
       have LZ:=balZ a0
       have R:=Za (Zb Z LZ)
       have aq:Hid (Two wz u.heap.size (.slice r t c1) (.slice y x c2) 158):=by show Two _ _ _ _ _;rw [<-a0];exact Two.new u _ _ _
       have aB:=Za (fun h=>(M h).next LZ)
       have ad:Hid ((∀b,F b->l.heap.size<=b)/\l.heap.size<=u.heap.size):=⟨fun b f=>by have:=(hF b f).1;omega,Z.size⟩
       rw [a0]
       refine s.out _ _ R.out (fun aQ=>?_)
       clear s K a0 M hF Z Y LZ
       refine ZB [12] rfl (by kernel_rfl) (by kernel_rfl) (by kernel_rfl) aQ ?_
       iterate 1 (refine⟨_,rfl,?_⟩;apply Exists.intro;refine⟨Or.inl ⟨by rfl,fun w' P=>?_⟩,?_⟩;(focus (go_simp<;>with_reducible rfl));simp only [Act.put,tkgZ])
       refine NoPanic.normal (NoPanic.normal ?_)
       go_wp2_with fail
       go_meet
       exact⟨_,r,t,c1,y,x,c2,F,rfl,rfl,aq.out,aB.out,ad.out.1,ad.out.2,R.out⟩
     · go_simp
       obtain⟨Wx,a6⟩:∃o,G.alloc (.cells #[.slice none 0 0,.slice none 0 0] 158)=o:=⟨_,rfl⟩
       obtain⟨z,bp⟩:∃q,G.heap.size=q:=⟨_,rfl⟩
       have LX:Below l.heap.size l Wx:=by rw [<-a6];exact B0.alloc s0 _
       have A:Two Wx z (.slice none 0 0) (.slice none 0 0) 158:=by rw [<-a6,<-bp];exact Two.new G _ _ _
       have aP:l.heap.size<=z:=by omega
       have cP:=A.lt
       first | rw [a6] | skip
       first | rw [bp] | skip
       refine s.out _ _ LX (fun _=>?_)
       clear s K a6
       refine Zc 6 (by kernel_rfl) rfl (fun K s=>?_)
       go_simp
       refine (ac.out Wx LX).mono ?_
       rintro e u ⟨r,t,c1,y,x,c2,F,rfl,M,hF,Y⟩
       have Z:=Zb LX Y
       have E:=A.below Y
       refine s.out _ _ Z (fun ax=>?_)
       clear s K
       refine Zz 2 [7,8,9] (by kernel_rfl) (by kernel_rfl) (by kernel_rfl) ax ?_
       iterate 3 (refine⟨_,rfl,?_⟩;apply Exists.intro;refine⟨Or.inl ⟨by rfl,fun w' P=>?_⟩,?_⟩;(focus (go_simp<;>with_reducible rfl));simp only [Act.put,tkgZ])
       have x0:=E.c0
       have x1:=E.c1
       have cb:=E.frozen 0
       have bW:=E.frozen 1
       refine Zc 11 (by kernel_rfl) rfl (fun K s=>?_)
       go_simp
       have R:=Za ((Z.setCell (by show l.heap.size<=z;exact aP) (.slice r t c1):Below l.heap.size l (u.setCell ⟨z,0,none⟩ (.slice r t c1))).setCell (by show l.heap.size<=z;exact aP) (.slice y x c2):Below l.heap.size l ((u.setCell ⟨z,0,none⟩ (.slice r t c1)).setCell ⟨z,1,none⟩ (.slice y x c2)))
       have aq:=Za ((E.set0 (.slice r t c1)).set1 (.slice y x c2))
       have aB:=Za (fun h=>(M h).sm (w':=(u.setCell ⟨z,0,none⟩ (.slice r t c1)).setCell ⟨z,1,none⟩ (.slice y x c2)) ⟨by rw [Ze,Ze];exact Nat.le_refl _,fun b f=>(Below.heap_setCell _ ⟨z,1,none⟩ _ b (fun e=>by have e':b=z:=e;have:=(hF b f).1;omega)).trans (Below.heap_setCell _ ⟨z,0,none⟩ _ b (fun e=>by have e':b=z:=e;have:=(hF b f).1;omega))⟩)
       have ad:Hid (∀b,F b->l.heap.size<=b):=fun b f=>by have:=(hF b f).1;omega
       clear M hF
       generalize (u.setCell ⟨z,0,none⟩ (.slice r t c1)).setCell ⟨z,1,none⟩ (.slice y x c2)=wz at *
       refine s.out _ _ R.out (fun aQ=>?_)
       clear s K x0 x1 cb bW Z Y E
       refine ZB [12] rfl (by kernel_rfl) (by kernel_rfl) (by kernel_rfl) aQ ?_
       iterate 1 (refine⟨_,rfl,?_⟩;apply Exists.intro;refine⟨Or.inl ⟨by rfl,fun w' P=>?_⟩,?_⟩;(focus (go_simp<;>with_reducible rfl));simp only [Act.put,tkgZ])
       refine NoPanic.normal (NoPanic.normal ?_)
       go_wp2_with fail
       go_meet
       exact⟨z,r,t,c1,y,x,c2,F,rfl,rfl,aq.out,aB.out,ad.out,aP,R.out⟩
    case rest=>
     obtain⟨X,r,t,c1,y,x,c2,F,rfl,rfl,A,aE,b7,cV,LW⟩:=hcut
     generalize hwc:wc=w5 at *
     clear hwc wc ac aK au a4
     have B:=Za (Zb I.out LW)
     have bn:=Za (HP.out.next LW)
     have aD:=Za (HT.out.below LW)
     rcases hmb:Zt ((Zi ts k).1++[m]) with _ | _
     · have aj:=ab.out.below B.out
       have k0:=aj.c0
       have k1:=aj.c1
       have bc:=Za (aW.out w5 B.out)
       have bb:Hid (ZcX m ts d=false):=Zkc hmb (by rw [HN.out];exact hlt)
       clear aE A aj
       go_wp2_with fail
       refine bc.out.mono ?_
       rintro e w6 ⟨vt,rfl,aV,L6⟩
       obtain⟨va,vc,rfl⟩:∃va vc,vt=.slice va ts.length vc:=by obtain⟨_,_,_,h⟩:=aV;obtain⟨a,c,e,-⟩:=h.form;exact⟨a,c,e⟩
       have H:=bh.out.below (Zb B.out L6)
       have r0:=H.c0
       have r1:=H.c1
       have ca:=H.frozen 0
       have bR:=H.frozen 1
       have az:=(H.set0 (.int .i64 d)).set1 (.slice va ts.length vc)
       have q0:=az.c0
       have q1:=az.c1
       obtain⟨S1,bM,bP,C⟩:=aV
       have cO:=B.out.size
       have cf:=ba.out
       have aO:=Za ((C.sm (w':=(w6.setCell ⟨w.heap.size+1+1,0,none⟩ (.int .i64 d)).setCell ⟨w.heap.size+1+1,1,none⟩ (.slice va ts.length vc)) ⟨by rw [Ze,Ze];exact Nat.le_refl _,fun b f=>(Below.heap_setCell _ ⟨w.heap.size+1+1,1,none⟩ _ b (fun e=>by have e':b=w.heap.size+1+1:=e;have:=(C.bnd b f).1;omega)).trans (Below.heap_setCell _ ⟨w.heap.size+1+1,0,none⟩ _ b (fun e=>by have e':b=w.heap.size+1+1:=e;have:=(C.bnd b f).1;omega))⟩).lowm (base':=w.heap.size) (by omega))
       have av:=Za (((Zb HB.out (Zb B.out L6)).setCell (by show w.heap.size<=w.heap.size+1+1;omega) (.int .i64 d)).setCell (by show w.heap.size<=w.heap.size+1+1;omega) (.slice va ts.length vc):Below w.heap.size w ((w6.setCell ⟨w.heap.size+1+1,0,none⟩ (.int .i64 d)).setCell ⟨w.heap.size+1+1,1,none⟩ (.slice va ts.length vc)))
       clear C H az L6 k0 k1
       go_wp2_with fail
       refine bodyPost_ret (v:=.tuple #[.agg #[.int .i64 d,(.slice va ts.length vc)],.bool false]) (by simp [results,Tryz.results123,go_sem,q0,q1]) rfl ?_
       refine⟨(.slice va ts.length vc),?_,⟨S1,bM,bP,?_⟩,av.out⟩
       · unfold ZfC;rw [bb.out];rfl
       · unfold Zb2;rw [bb.out];exact aO.out
     · have c7:=Za (aE hmb)
       have cL:=Za hmb
       have D:=ZbN m ts k
       have aM:=HP.out
       rw [<-D] at aM
       have br:=Za (aM.put LW (k:=k) (by rw [D];exact aJ) c7.out b7 I.out.size)
       rw [D] at br
       have a7:∀i,i<(ZeW m ts k).length->w5.cell? ⟨g,i*2,none⟩=some (vm i)/\w5.cell? ⟨g,i*2+1,none⟩=some (vl i)/\∀j,w5.frozen? ⟨g,j,none⟩=false:=by
        obtain⟨g',c',c6,-,-,-,a7⟩:=(bn.out).nonil (by rw [D];omega)
        injection c6 with h1 h2 h3
        injection h1 with h1
        injection h1 with h1
        subst h1
        exact a7
       obtain⟨e0,e1,ef⟩:=a7 k (by rw [D];exact aJ)
       have f0:=ef (k*2)
       have f1:=ef (k*2+1)
       have o1:=aD.out.c1
       have x0:=A.c0
       have x1:=A.c1
       have cI:=n0Z k
       have cM:(k:Int)<(ts.length:Int):=by omega
       have bl:g≠O:=a8.out.2
       have HE:Hid (Two ((w5.setCell ⟨g,k*2,none⟩ (.slice r t c1)).setCell ⟨g,k*2+1,none⟩ (.slice y x c2)) O (.int .i64 (Zan d)) (.slice (some ⟨g,0,none⟩) ts.length c) 39/\Below W.heap.size W ((w5.setCell ⟨g,k*2,none⟩ (.slice r t c1)).setCell ⟨g,k*2+1,none⟩ (.slice y x c2))):=
        ⟨(aD.out.far bl _).far bl _,(B.out.setCell (by show W.heap.size<=g;exact aU) _).setCell (by show W.heap.size<=g;exact aU) _⟩
       have cR:=HT.out.lt
       have bH:Hid (∀i b,i<ts.length->ZcA S k F i b->b≠O):=fun i b hi f=>by
        unfold ZcA at f
        by_cases e:i=k
        · rw [if_pos e] at f;have:=b7 b f;omega
        · rw [if_neg e] at f;exact c9.out i b hi f
       have c8:=Za (Zh5 aY.out hmb)
       clear aM D a7 ef aE A HP HT I bn aD B LW
       go_wp2_with fail
       go_roundg (N-(k+1))
       case rel=>exact⟨k+1,_,_,_,by omega,Nat.le_refl _,by go_num,c8.out,br.out,bH.out,HE.out.1,HE.out.2⟩
       case measure=>omega
  · obtain rfl:k=N:=by omega
    have ak:¬((k:Int)<=(k:Int)-1):=by omega
    have ae:Hid (ZcX m ts d=true):=by show Zeq m ts (ZfB d)=true;rw [HN.out];exact aY.out
    have t2:=bh.out.below I.out
    have r0:=t2.c0
    have r1:=t2.c1
    have ca:=t2.frozen 0
    have bR:=t2.frozen 1
    have x1:=HT.out.c1
    have t3:=(t2.set0 (.int .i64 (Zan d))).set1 (.slice (some ⟨g,0,none⟩) ts.length c)
    have q0:=t3.c0
    have q1:=t3.c1
    have hz:=I.out.size
    have cf:=ba.out
    have aO:=Za ((HP.out.sm (w':=(wr.setCell ⟨w.heap.size+1+1,0,none⟩ (.int .i64 (Zan d))).setCell ⟨w.heap.size+1+1,1,none⟩ (.slice (some ⟨g,0,none⟩) ts.length c)) ⟨by rw [Ze,Ze];exact Nat.le_refl _,fun b f=>(Below.heap_setCell _ ⟨w.heap.size+1+1,1,none⟩ _ b (fun e=>by have e':b=w.heap.size+1+1:=e;have:=(HP.out.bnd b f).1;omega)).trans (Below.heap_setCell _ ⟨w.heap.size+1+1,0,none⟩ _ b (fun e=>by have e':b=w.heap.size+1+1:=e;have:=(HP.out.bnd b f).1;omega))⟩).lowm (base':=w.heap.size) (by omega))
    have av:=Za (((Zb HB.out I.out).setCell (by show w.heap.size<=w.heap.size+1+1;omega) (.int .i64 (Zan d))).setCell (by show w.heap.size<=w.heap.size+1+1;omega) (.slice (some ⟨g,0,none⟩) ts.length c):Below w.heap.size w ((wr.setCell ⟨w.heap.size+1+1,0,none⟩ (.int .i64 (Zan d))).setCell ⟨w.heap.size+1+1,1,none⟩ (.slice (some ⟨g,0,none⟩) ts.length c)))
    clear t2 t3
    go_wp2_with fail
    refine a4.out.mono ?_
    rintro e l ⟨rfl,aF⟩
    subst aF
    go_wp2_with fail
    refine bodyPost_ret (v:=.tuple #[.agg #[.int .i64 (Zan d),.slice (some ⟨g,0,none⟩) ts.length c],.bool true]) (by simp [results,Tryz.results123,go_sem,q0,q1]) rfl ?_
    refine⟨.slice (some ⟨g,0,none⟩) ts.length c,?_,⟨S,vm,vl,?_⟩,av.out⟩
    · unfold ZfC;rw [ae.out];rfl
    · unfold Zb2;rw [ae.out,HN.out];exact aO.out
theorem Zb3{P:Program}{md:Region.Mode}{Q:Exit->Act->World->Prop}{ops:Array Oper}{S:World->Prop}{fuel:Nat}{listed:Array Bool}{a:Act}{w:World}{o o2 o3:Oper}(i j l:Nat)(hr:Region.ready md ops listed=[i,j,l])(ho:ops[i]? =some o)(ho2:ops[j]? =some o2)(ho3:ops[l]? =some o3)
 (h:∀K:Act->World->Prop,Shut (∀a w,S w->(S w->wpAnyH P md ops Q S fuel (listed.setIfInBounds i true) a w)->K a w)->if Region.wanted o (yielded ops a.tmps)=true then Oper.wp P o a w K Q else K (a.put o.dst undef) w)
 (h2:∀K:Act->World->Prop,Shut (∀a w,S w->(S w->wpAnyH P md ops Q S fuel (listed.setIfInBounds j true) a w)->K a w)->if Region.wanted o2 (yielded ops a.tmps)=true then Oper.wp P o2 a w K Q else K (a.put o2.dst undef) w)
 (h3:∀K:Act->World->Prop,Shut (∀a w,S w->(S w->wpAnyH P md ops Q S fuel (listed.setIfInBounds l true) a w)->K a w)->if Region.wanted o3 (yielded ops a.tmps)=true then Oper.wp P o3 a w K Q else K (a.put o3.dst undef) w):wpAnyH P md ops Q S (fuel+1) listed a w:=
 wpAnyH_ready hr (by simp) (AllReadyH.cons ho h (AllReadyH.cons ho2 h2 (AllReadyH.cons ho3 h3 AllReadyH.nil)))
theorem Zh8(o:Bool)(b:Nat)(d:Int)(w:World)(ht:Thr w b o (if o then Zan d else d)):
 Calls Tryz.prog 171 #[.pointer (some ⟨b,0,none⟩)] w fun e w'=>e=.returned (.int .i64 (Zan d))/\Thr w' b true (Zan d)/\Cgd (fun i=>i=b) w w':=by
 cases o
 · exact Zmy b d w ht
 · exact (Zmz b (Zan d) w ht).mono (fun _ _ ⟨e,L⟩=>⟨e,Thr.sm ht (L.block b (Thr.lt ht)),Cgd.of L⟩)
theorem ZmA(aw at':Option Addr)(cw ct:Nat)(d:Int)(ts:List Wb)(m:Mk)(w:World)(hv:Zp true w aw ts)(ha:Zy w at' m.2)(hal:m.2.length<=1048576)(hok:Zap d ts=true)(hsm:Z1 ts):
 Calls Tryz.prog 132 #[.agg #[.int .i64 d,.slice aw ts.length cw],.agg #[.int .i64 m.1,.slice at' m.2.length ct]] w fun e w'=>∃vt,e=.returned (.tuple #[.agg #[.int .i64 (ZfC m ts d),vt],.bool (ZcX m ts d)])/\(∃S vm vl,TsR true w.heap.size w' vt (Zb2 m ts d) S vm vl)/\Below w.heap.size w w':=by
 obtain⟨W1,aS⟩:∃W,w.alloc (.cells #[.int .i64 d,.slice aw ts.length cw] 39)=W:=⟨_,rfl⟩
 obtain⟨W2,aP⟩:∃W,W1.alloc (.cells #[.int .i64 m.1,.slice at' m.2.length ct] 161)=W:=⟨_,rfl⟩
 obtain⟨W,hW⟩:∃W,W2.alloc (.cells #[.int .i64 0,.slice none 0 0] 39)=W:=⟨_,rfl⟩
 have s1:=salZ aS
 have s2:W2.heap.size=w.heap.size+1+1:=by rw [<-aP];simp [s1]
 have s3:W.heap.size=w.heap.size+1+1+1:=by rw [<-hW];simp [s2]
 have b1:=balZ aS
 have b2:=balZ aP
 have b3:=balZ hW
 have t0:Two W w.heap.size (.int .i64 d) (.slice aw ts.length cw) 39:=by
  have:Two W1 w.heap.size (.int .i64 d) (.slice aw ts.length cw) 39:=by rw [<-aS];exact Two.new w _ _ _
  exact (this.below b2).below b3
 have t1:Two W (w.heap.size+1) (.int .i64 m.1) (.slice at' m.2.length ct) 161:=by
  have:Two W2 (w.heap.size+1) (.int .i64 m.1) (.slice at' m.2.length ct) 161:=by rw [<-aP,<-s1];exact Two.new W1 _ _ _
  exact this.below b3
 have t2:Two W (w.heap.size+1+1) (.int .i64 0) (.slice none 0 0) 39:=by rw [<-hW,<-s2];exact Two.new W2 _ _ _
 have hB:=Zb (Zb b1 b2) b3
 have HB:=Za hB
 have HV:=Za (fun Z (L:Below W.heap.size W Z)=>hv.next (Zb hB L))
 have HM:=Za (fun Z (L:Below W.heap.size W Z)=>(ha.below (Nat.le_refl _) hB).below (Nat.le_refl _) L)
 have aV:=Za t0
 have bv:=Za t1
 have bA:=Za t2
 have c6:=Za s3
 have bc:=Za (And.intro hok (And.intro hsm hal))
 obtain⟨bp,d3,cZ⟩:=Ze8 (Zhc hok)
 have H4:Hid (ts.length=4):=(ZdM hok).1
 have cq:=Za bp
 have aD:=Za (fun Z (L:Below W.heap.size W Z)=>ZfD true aw cw d ts Z (hv.next (Zb hB L)) hok hsm)
 have aT:=Za (Zh9 aw cw d ts W (hv.next hB) hsm)
 rw [hok] at aT
 have k0:=t0.c0
 have k1:=t0.c1
 have cg:Hid _:=aw3Z aS aP hW
 obtain⟨N,hN⟩:∃N,ZfB d=N:=⟨_,rfl⟩
 have HN:=Za hN
 rw [hN] at bp d3 cZ cq
 clear hv ha hok hsm hal hB b1 b2 b3 t0 t1 t2 s1 s2 s3 hW aS aP hN bp
 go_enter Tryz.func132,Tryz.ntmps132
 go_upto_region 1 with fail
 rw [cg.out]
 clear cg
 go_wp2_with fail
 refine aT.out.mono ?_
 rintro e W0 ⟨rfl,L0⟩
 clear k0 k1 aT
 go_upto_region 3 with fail
 go_cut [6,7] from 11 to 20 (fun v b wx=>∃t O g c S0 P U,v=.pointer (some ⟨t,0,none⟩)/\b=.pointer (some ⟨O,0,none⟩)/\Two wx t (.int .i64 d) (.slice (some ⟨g,0,none⟩) ts.length c) 39/\Thr wx O false d/\TsR true W.heap.size wx (.slice (some ⟨g,0,none⟩) ts.length c) ts S0 P U/\(∀b,FtR (.slice (some ⟨g,0,none⟩) ts.length c) ts.length S0 b->b≠t/\b≠O)/\t≠O/\W.heap.size<=t/\W.heap.size<=O/\O<wx.heap.size/\t<wx.heap.size/\Below W.heap.size W wx)
 case first=>
  have aA:=Za (L0.drew)
  have aU:Hid (∀Z,Below W.heap.size W Z->Z.cell? ⟨w.heap.size,0,none⟩=some (.int .i64 d)/\Z.cell? ⟨w.heap.size,1,none⟩=some (.slice aw ts.length cw)):=fun Z L'=>⟨(aV.out.below L').c0,(aV.out.below L').c1⟩
  refine Zl (S:=fun Z=>Below W.heap.size W Z) (fuel:=5) [0,2,3,4] (by kernel_rfl) (by kernel_rfl) (by kernel_rfl) (by kernel_rfl) aA.out (fun _=>?_)
  iterate 4 (refine⟨_,rfl,?_⟩;apply Exists.intro;refine⟨Or.inl ⟨by rfl,fun w' Q=>?_⟩,?_⟩;(focus (obtain⟨e1,e2⟩:=aU.out w' Q;go_simp<;>with_reducible rfl));simp only [Act.put,tkgZ])
  obtain⟨G,aq⟩:∃w0,W0.drew=w0:=⟨_,rfl⟩
  have ac:Below W.heap.size W G:=by rw [<-aq];exact aA.out
  have d7:W.heap.size<=G.heap.size:=ac.size
  rw [aq]
  clear aq
  refine Zb3 1 5 6 (by kernel_rfl) rfl rfl rfl (fun K r=>?_) (fun K r=>?_) (fun K r=>?_)
  · go_simp
    refine (aD.out G ac).mono ?_
    rintro e u1 ⟨vt,rfl,⟨S0,P,U,A⟩,ag⟩
    obtain⟨g,c,rfl,an,aJ,aB,-⟩:=A.nonil (by have:=H4.out;omega)
    have B:∀b,FtR (.slice (some ⟨g,0,none⟩) ts.length c) ts.length S0 b->G.heap.size<=b/\b<u1.heap.size:=fun b f=>A.bnd b f
    have bU:=ag.size
    have a0:=Zb ac ag
    refine r.out _ _ a0 (fun _=>?_)
    clear r K
    refine ZA 5 6 (by kernel_rfl) rfl rfl (fun K r=>?_) (fun K r=>?_)
    · go_simp
      obtain⟨u2,I⟩:∃w0,u1.alloc (.cells #[.int .u32 0,.int .i32 0,.int .u32 0,.int .i64 d] 214)=w0:=⟨_,rfl⟩
      have C:=balZ I
      obtain⟨O,H⟩:∃q,u1.heap.size=q:=⟨_,rfl⟩
      have y:Thr u2 O false d:=by rw [<-I,<-H];exact heap_alloc_new u1 _
      have sT:=y.lt
      first | rw [I] | skip
      first | rw [H] | skip
      have aN:=C.size
      replace A:=A.next C
      have E:=Zb a0 C
      refine r.out _ _ E (fun _=>?_)
      clear r K I
      refine Zc 6 (by kernel_rfl) rfl (fun K r=>?_)
      · go_simp
        obtain⟨u3,u⟩:∃w0,u2.alloc (.cells #[.int .i64 0,.slice none 0 0] 39)=w0:=⟨_,rfl⟩
        have z:=balZ u
        obtain⟨t,Y⟩:∃q,u2.heap.size=q:=⟨_,rfl⟩
        have s:Two u3 t (.int .i64 0) (.slice none 0 0) 39:=by rw [<-u,<-Y];exact Two.new u2 _ _ _
        have sR:=s.lt
        first | rw [u] | skip
        first | rw [Y] | skip
        have ak:=z.size
        replace A:=A.next z
        replace y:=y.sm (z.block _ y.lt)
        have D:=Zb E z
        refine r.out _ _ D (fun _=>?_)
        clear r K u
        have x0:=s.c0
        have x1:=s.c1
        have M:=s.frozen 0
        have J:=s.frozen 1
        refine Zc 7 (by kernel_rfl) rfl (fun K r=>?_)
        · go_simp
          obtain⟨u4,l⟩:∃wz,(u3.setCell ⟨t,0,none⟩ (.int .i64 d)).setCell ⟨t,1,none⟩ (.slice (some ⟨g,0,none⟩) ts.length c)=wz:=⟨_,rfl⟩
          have far:∀b,b≠t->u4.heap[b]? =u3.heap[b]? :=fun b f=>by rw [<-l];exact (Below.heap_setCell _ ⟨t,1,none⟩ _ b (fun e=>f e)).trans (Below.heap_setCell _ ⟨t,0,none⟩ _ b (fun e=>f e))
          have au:u3.heap.size=u4.heap.size:=by rw [<-l,Ze,Ze]
          replace A:=A.sm (w':=u4) ⟨by omega,fun b f=>far b (by have:=B b f;omega)⟩
          have x:Below W.heap.size W u4:=by rw [<-l];exact (D.setCell (by show W.heap.size<=t;omega) _).setCell (by show W.heap.size<=t;omega) _
          replace s:Two u4 t (.int .i64 d) (.slice (some ⟨g,0,none⟩) ts.length c) 39:=by rw [<-l];exact (s.set0 _).set1 _
          first | rw [l] | skip
          replace y:=y.sm (w':=u4) (far O (by omega))
          refine r.out _ _ x (fun _=>?_)
          clear r K l far x0 x1 M J
          refine ZB [8] rfl (by kernel_rfl) (by kernel_rfl) (by kernel_rfl) x ?_
          iterate 1 (refine⟨_,rfl,?_⟩;apply Exists.intro;refine⟨Or.inl ⟨by rfl,fun w' Q=>?_⟩,?_⟩;(focus (go_simp<;>with_reducible rfl));simp only [Act.put,tkgZ])
          refine NoPanic.normal (NoPanic.normal ?_)
          have ad:=y.lt
          have ar:=s.lt
          go_wp2_with fail
          go_meet
          exact⟨t,O,g,c,S0,P,U,rfl,rfl,s,y,A.lowm (by omega),fun b f=>by have:=B b f;omega,by omega,by omega,by omega,by omega,by omega,x⟩
    · go_simp
      obtain⟨u2,I⟩:∃w0,u1.alloc (.cells #[.int .i64 0,.slice none 0 0] 39)=w0:=⟨_,rfl⟩
      have C:=balZ I
      obtain⟨t,Y⟩:∃q,u1.heap.size=q:=⟨_,rfl⟩
      have s:Two u2 t (.int .i64 0) (.slice none 0 0) 39:=by rw [<-I,<-Y];exact Two.new u1 _ _ _
      have sR:=s.lt
      first | rw [I] | skip
      first | rw [Y] | skip
      have aN:=C.size
      replace A:=A.next C
      have E:=Zb a0 C
      refine r.out _ _ E (fun _=>?_)
      clear r K I
      have x0:=s.c0
      have x1:=s.c1
      have M:=s.frozen 0
      have J:=s.frozen 1
      refine ZA 5 7 (by kernel_rfl) rfl rfl (fun K r=>?_) (fun K r=>?_)
      · go_simp
        obtain⟨u3,u⟩:∃w0,u2.alloc (.cells #[.int .u32 0,.int .i32 0,.int .u32 0,.int .i64 d] 214)=w0:=⟨_,rfl⟩
        have z:=balZ u
        obtain⟨O,H⟩:∃q,u2.heap.size=q:=⟨_,rfl⟩
        have y:Thr u3 O false d:=by rw [<-u,<-H];exact heap_alloc_new u2 _
        have sT:=y.lt
        first | rw [u] | skip
        first | rw [H] | skip
        have ak:=z.size
        replace A:=A.next z
        replace s:=s.below z
        have D:=Zb E z
        refine r.out _ _ D (fun _=>?_)
        clear r K u x0 x1 M J
        have x0:=s.c0
        have x1:=s.c1
        have M:=s.frozen 0
        have J:=s.frozen 1
        refine Zc 7 (by kernel_rfl) rfl (fun K r=>?_)
        · go_simp
          obtain⟨u4,l⟩:∃wz,(u3.setCell ⟨t,0,none⟩ (.int .i64 d)).setCell ⟨t,1,none⟩ (.slice (some ⟨g,0,none⟩) ts.length c)=wz:=⟨_,rfl⟩
          have far:∀b,b≠t->u4.heap[b]? =u3.heap[b]? :=fun b f=>by rw [<-l];exact (Below.heap_setCell _ ⟨t,1,none⟩ _ b (fun e=>f e)).trans (Below.heap_setCell _ ⟨t,0,none⟩ _ b (fun e=>f e))
          have au:u3.heap.size=u4.heap.size:=by rw [<-l,Ze,Ze]
          replace A:=A.sm (w':=u4) ⟨by omega,fun b f=>far b (by have:=B b f;omega)⟩
          have x:Below W.heap.size W u4:=by rw [<-l];exact (D.setCell (by show W.heap.size<=t;omega) _).setCell (by show W.heap.size<=t;omega) _
          replace s:Two u4 t (.int .i64 d) (.slice (some ⟨g,0,none⟩) ts.length c) 39:=by rw [<-l];exact (s.set0 _).set1 _
          first | rw [l] | skip
          replace y:=y.sm (w':=u4) (far O (by omega))
          refine r.out _ _ x (fun _=>?_)
          clear r K l far x0 x1 M J
          refine ZB [8] rfl (by kernel_rfl) (by kernel_rfl) (by kernel_rfl) x ?_
          iterate 1 (refine⟨_,rfl,?_⟩;apply Exists.intro;refine⟨Or.inl ⟨by rfl,fun w' Q=>?_⟩,?_⟩;(focus (go_simp<;>with_reducible rfl));simp only [Act.put,tkgZ])
          refine NoPanic.normal (NoPanic.normal ?_)
          have ad:=y.lt
          have ar:=s.lt
          go_wp2_with fail
          go_meet
          exact⟨t,O,g,c,S0,P,U,rfl,rfl,s,y,A.lowm (by omega),fun b f=>by have:=B b f;omega,by omega,by omega,by omega,by omega,by omega,x⟩
      · go_simp
        obtain⟨u3,u⟩:∃wz,(u2.setCell ⟨t,0,none⟩ (.int .i64 d)).setCell ⟨t,1,none⟩ (.slice (some ⟨g,0,none⟩) ts.length c)=wz:=⟨_,rfl⟩
        have far:∀b,b≠t->u3.heap[b]? =u2.heap[b]? :=fun b f=>by rw [<-u];exact (Below.heap_setCell _ ⟨t,1,none⟩ _ b (fun e=>f e)).trans (Below.heap_setCell _ ⟨t,0,none⟩ _ b (fun e=>f e))
        have ak:u2.heap.size=u3.heap.size:=by rw [<-u,Ze,Ze]
        replace A:=A.sm (w':=u3) ⟨by omega,fun b f=>far b (by have:=B b f;omega)⟩
        have D:Below W.heap.size W u3:=by rw [<-u];exact (E.setCell (by show W.heap.size<=t;omega) _).setCell (by show W.heap.size<=t;omega) _
        replace s:Two u3 t (.int .i64 d) (.slice (some ⟨g,0,none⟩) ts.length c) 39:=by rw [<-u];exact (s.set0 _).set1 _
        first | rw [u] | skip
        refine r.out _ _ D (fun _=>?_)
        clear r K u far x0 x1 M J
        refine Zc 5 (by kernel_rfl) rfl (fun K r=>?_)
        · go_simp
          obtain⟨u4,l⟩:∃w0,u3.alloc (.cells #[.int .u32 0,.int .i32 0,.int .u32 0,.int .i64 d] 214)=w0:=⟨_,rfl⟩
          have a8:=balZ l
          obtain⟨O,H⟩:∃q,u3.heap.size=q:=⟨_,rfl⟩
          have y:Thr u4 O false d:=by rw [<-l,<-H];exact heap_alloc_new u3 _
          have sT:=y.lt
          first | rw [l] | skip
          first | rw [H] | skip
          have au:=a8.size
          replace A:=A.next a8
          replace s:=s.below a8
          have x:=Zb D a8
          refine r.out _ _ x (fun _=>?_)
          clear r K l
          refine ZB [8] rfl (by kernel_rfl) (by kernel_rfl) (by kernel_rfl) x ?_
          iterate 1 (refine⟨_,rfl,?_⟩;apply Exists.intro;refine⟨Or.inl ⟨by rfl,fun w' Q=>?_⟩,?_⟩;(focus (go_simp<;>with_reducible rfl));simp only [Act.put,tkgZ])
          refine NoPanic.normal (NoPanic.normal ?_)
          have ad:=y.lt
          have ar:=s.lt
          go_wp2_with fail
          go_meet
          exact⟨t,O,g,c,S0,P,U,rfl,rfl,s,y,A.lowm (by omega),fun b f=>by have:=B b f;omega,by omega,by omega,by omega,by omega,by omega,x⟩
  · go_simp
    obtain⟨u1,a9⟩:∃w0,G.alloc (.cells #[.int .u32 0,.int .i32 0,.int .u32 0,.int .i64 d] 214)=w0:=⟨_,rfl⟩
    have ag:=balZ a9
    obtain⟨O,H⟩:∃q,G.heap.size=q:=⟨_,rfl⟩
    have y:Thr u1 O false d:=by rw [<-a9,<-H];exact heap_alloc_new G _
    have sT:=y.lt
    first | rw [a9] | skip
    first | rw [H] | skip
    have bU:=ag.size
    have a0:=Zb ac ag
    refine r.out _ _ a0 (fun _=>?_)
    clear r K a9
    refine ZA 1 6 (by kernel_rfl) rfl rfl (fun K r=>?_) (fun K r=>?_)
    · go_simp
      refine (aD.out u1 a0).mono ?_
      rintro e u2 ⟨vt,rfl,⟨S0,P,U,A⟩,C⟩
      obtain⟨g,c,rfl,an,aJ,aB,-⟩:=A.nonil (by have:=H4.out;omega)
      have B:∀b,FtR (.slice (some ⟨g,0,none⟩) ts.length c) ts.length S0 b->u1.heap.size<=b/\b<u2.heap.size:=fun b f=>A.bnd b f
      have aN:=C.size
      replace y:=y.sm (C.block _ y.lt)
      have E:=Zb a0 C
      refine r.out _ _ E (fun _=>?_)
      clear r K
      refine Zc 6 (by kernel_rfl) rfl (fun K r=>?_)
      · go_simp
        obtain⟨u3,u⟩:∃w0,u2.alloc (.cells #[.int .i64 0,.slice none 0 0] 39)=w0:=⟨_,rfl⟩
        have z:=balZ u
        obtain⟨t,Y⟩:∃q,u2.heap.size=q:=⟨_,rfl⟩
        have s:Two u3 t (.int .i64 0) (.slice none 0 0) 39:=by rw [<-u,<-Y];exact Two.new u2 _ _ _
        have sR:=s.lt
        first | rw [u] | skip
        first | rw [Y] | skip
        have ak:=z.size
        replace A:=A.next z
        replace y:=y.sm (z.block _ y.lt)
        have D:=Zb E z
        refine r.out _ _ D (fun _=>?_)
        clear r K u
        have x0:=s.c0
        have x1:=s.c1
        have M:=s.frozen 0
        have J:=s.frozen 1
        refine Zc 7 (by kernel_rfl) rfl (fun K r=>?_)
        · go_simp
          obtain⟨u4,l⟩:∃wz,(u3.setCell ⟨t,0,none⟩ (.int .i64 d)).setCell ⟨t,1,none⟩ (.slice (some ⟨g,0,none⟩) ts.length c)=wz:=⟨_,rfl⟩
          have far:∀b,b≠t->u4.heap[b]? =u3.heap[b]? :=fun b f=>by rw [<-l];exact (Below.heap_setCell _ ⟨t,1,none⟩ _ b (fun e=>f e)).trans (Below.heap_setCell _ ⟨t,0,none⟩ _ b (fun e=>f e))
          have au:u3.heap.size=u4.heap.size:=by rw [<-l,Ze,Ze]
          replace A:=A.sm (w':=u4) ⟨by omega,fun b f=>far b (by have:=B b f;omega)⟩
          have x:Below W.heap.size W u4:=by rw [<-l];exact (D.setCell (by show W.heap.size<=t;omega) _).setCell (by show W.heap.size<=t;omega) _
          replace s:Two u4 t (.int .i64 d) (.slice (some ⟨g,0,none⟩) ts.length c) 39:=by rw [<-l];exact (s.set0 _).set1 _
          first | rw [l] | skip
          replace y:=y.sm (w':=u4) (far O (by omega))
          refine r.out _ _ x (fun _=>?_)
          clear r K l far x0 x1 M J
          refine ZB [8] rfl (by kernel_rfl) (by kernel_rfl) (by kernel_rfl) x ?_
          iterate 1 (refine⟨_,rfl,?_⟩;apply Exists.intro;refine⟨Or.inl ⟨by rfl,fun w' Q=>?_⟩,?_⟩;(focus (go_simp<;>with_reducible rfl));simp only [Act.put,tkgZ])
          refine NoPanic.normal (NoPanic.normal ?_)
          have ad:=y.lt
          have ar:=s.lt
          go_wp2_with fail
          go_meet
          exact⟨t,O,g,c,S0,P,U,rfl,rfl,s,y,A.lowm (by omega),fun b f=>by have:=B b f;omega,by omega,by omega,by omega,by omega,by omega,x⟩
    · go_simp
      obtain⟨u2,I⟩:∃w0,u1.alloc (.cells #[.int .i64 0,.slice none 0 0] 39)=w0:=⟨_,rfl⟩
      have C:=balZ I
      obtain⟨t,Y⟩:∃q,u1.heap.size=q:=⟨_,rfl⟩
      have s:Two u2 t (.int .i64 0) (.slice none 0 0) 39:=by rw [<-I,<-Y];exact Two.new u1 _ _ _
      have sR:=s.lt
      first | rw [I] | skip
      first | rw [Y] | skip
      have aN:=C.size
      replace y:=y.sm (C.block _ y.lt)
      have E:=Zb a0 C
      refine r.out _ _ E (fun _=>?_)
      clear r K I
      refine Zc 1 (by kernel_rfl) rfl (fun K r=>?_)
      · go_simp
        refine (aD.out u2 E).mono ?_
        rintro e u3 ⟨vt,rfl,⟨S0,P,U,A⟩,z⟩
        obtain⟨g,c,rfl,an,aJ,aB,-⟩:=A.nonil (by have:=H4.out;omega)
        have B:∀b,FtR (.slice (some ⟨g,0,none⟩) ts.length c) ts.length S0 b->u2.heap.size<=b/\b<u3.heap.size:=fun b f=>A.bnd b f
        have ak:=z.size
        replace y:=y.sm (z.block _ y.lt)
        replace s:=s.below z
        have D:=Zb E z
        refine r.out _ _ D (fun _=>?_)
        clear r K
        have x0:=s.c0
        have x1:=s.c1
        have M:=s.frozen 0
        have J:=s.frozen 1
        refine Zc 7 (by kernel_rfl) rfl (fun K r=>?_)
        · go_simp
          obtain⟨u4,l⟩:∃wz,(u3.setCell ⟨t,0,none⟩ (.int .i64 d)).setCell ⟨t,1,none⟩ (.slice (some ⟨g,0,none⟩) ts.length c)=wz:=⟨_,rfl⟩
          have far:∀b,b≠t->u4.heap[b]? =u3.heap[b]? :=fun b f=>by rw [<-l];exact (Below.heap_setCell _ ⟨t,1,none⟩ _ b (fun e=>f e)).trans (Below.heap_setCell _ ⟨t,0,none⟩ _ b (fun e=>f e))
          have au:u3.heap.size=u4.heap.size:=by rw [<-l,Ze,Ze]
          replace A:=A.sm (w':=u4) ⟨by omega,fun b f=>far b (by have:=B b f;omega)⟩
          have x:Below W.heap.size W u4:=by rw [<-l];exact (D.setCell (by show W.heap.size<=t;omega) _).setCell (by show W.heap.size<=t;omega) _
          replace s:Two u4 t (.int .i64 d) (.slice (some ⟨g,0,none⟩) ts.length c) 39:=by rw [<-l];exact (s.set0 _).set1 _
          first | rw [l] | skip
          replace y:=y.sm (w':=u4) (far O (by omega))
          refine r.out _ _ x (fun _=>?_)
          clear r K l far x0 x1 M J
          refine ZB [8] rfl (by kernel_rfl) (by kernel_rfl) (by kernel_rfl) x ?_
          iterate 1 (refine⟨_,rfl,?_⟩;apply Exists.intro;refine⟨Or.inl ⟨by rfl,fun w' Q=>?_⟩,?_⟩;(focus (go_simp<;>with_reducible rfl));simp only [Act.put,tkgZ])
          refine NoPanic.normal (NoPanic.normal ?_)
          have ad:=y.lt
          have ar:=s.lt
          go_wp2_with fail
          go_meet
          exact⟨t,O,g,c,S0,P,U,rfl,rfl,s,y,A.lowm (by omega),fun b f=>by have:=B b f;omega,by omega,by omega,by omega,by omega,by omega,x⟩
  · go_simp
    obtain⟨u1,a9⟩:∃w0,G.alloc (.cells #[.int .i64 0,.slice none 0 0] 39)=w0:=⟨_,rfl⟩
    have ag:=balZ a9
    obtain⟨t,Y⟩:∃q,G.heap.size=q:=⟨_,rfl⟩
    have s:Two u1 t (.int .i64 0) (.slice none 0 0) 39:=by rw [<-a9,<-Y];exact Two.new G _ _ _
    have sR:=s.lt
    first | rw [a9] | skip
    first | rw [Y] | skip
    have bU:=ag.size
    have a0:=Zb ac ag
    refine r.out _ _ a0 (fun _=>?_)
    clear r K a9
    refine ZA 1 5 (by kernel_rfl) rfl rfl (fun K r=>?_) (fun K r=>?_)
    · go_simp
      refine (aD.out u1 a0).mono ?_
      rintro e u2 ⟨vt,rfl,⟨S0,P,U,A⟩,C⟩
      obtain⟨g,c,rfl,an,aJ,aB,-⟩:=A.nonil (by have:=H4.out;omega)
      have B:∀b,FtR (.slice (some ⟨g,0,none⟩) ts.length c) ts.length S0 b->u1.heap.size<=b/\b<u2.heap.size:=fun b f=>A.bnd b f
      have aN:=C.size
      replace s:=s.below C
      have E:=Zb a0 C
      refine r.out _ _ E (fun _=>?_)
      clear r K
      have x0:=s.c0
      have x1:=s.c1
      have M:=s.frozen 0
      have J:=s.frozen 1
      refine ZA 5 7 (by kernel_rfl) rfl rfl (fun K r=>?_) (fun K r=>?_)
      · go_simp
        obtain⟨u3,u⟩:∃w0,u2.alloc (.cells #[.int .u32 0,.int .i32 0,.int .u32 0,.int .i64 d] 214)=w0:=⟨_,rfl⟩
        have z:=balZ u
        obtain⟨O,H⟩:∃q,u2.heap.size=q:=⟨_,rfl⟩
        have y:Thr u3 O false d:=by rw [<-u,<-H];exact heap_alloc_new u2 _
        have sT:=y.lt
        first | rw [u] | skip
        first | rw [H] | skip
        have ak:=z.size
        replace A:=A.next z
        replace s:=s.below z
        have D:=Zb E z
        refine r.out _ _ D (fun _=>?_)
        clear r K u x0 x1 M J
        have x0:=s.c0
        have x1:=s.c1
        have M:=s.frozen 0
        have J:=s.frozen 1
        refine Zc 7 (by kernel_rfl) rfl (fun K r=>?_)
        · go_simp
          obtain⟨u4,l⟩:∃wz,(u3.setCell ⟨t,0,none⟩ (.int .i64 d)).setCell ⟨t,1,none⟩ (.slice (some ⟨g,0,none⟩) ts.length c)=wz:=⟨_,rfl⟩
          have far:∀b,b≠t->u4.heap[b]? =u3.heap[b]? :=fun b f=>by rw [<-l];exact (Below.heap_setCell _ ⟨t,1,none⟩ _ b (fun e=>f e)).trans (Below.heap_setCell _ ⟨t,0,none⟩ _ b (fun e=>f e))
          have au:u3.heap.size=u4.heap.size:=by rw [<-l,Ze,Ze]
          replace A:=A.sm (w':=u4) ⟨by omega,fun b f=>far b (by have:=B b f;omega)⟩
          have x:Below W.heap.size W u4:=by rw [<-l];exact (D.setCell (by show W.heap.size<=t;omega) _).setCell (by show W.heap.size<=t;omega) _
          replace s:Two u4 t (.int .i64 d) (.slice (some ⟨g,0,none⟩) ts.length c) 39:=by rw [<-l];exact (s.set0 _).set1 _
          first | rw [l] | skip
          replace y:=y.sm (w':=u4) (far O (by omega))
          refine r.out _ _ x (fun _=>?_)
          clear r K l far x0 x1 M J
          refine ZB [8] rfl (by kernel_rfl) (by kernel_rfl) (by kernel_rfl) x ?_
          iterate 1 (refine⟨_,rfl,?_⟩;apply Exists.intro;refine⟨Or.inl ⟨by rfl,fun w' Q=>?_⟩,?_⟩;(focus (go_simp<;>with_reducible rfl));simp only [Act.put,tkgZ])
          refine NoPanic.normal (NoPanic.normal ?_)
          have ad:=y.lt
          have ar:=s.lt
          go_wp2_with fail
          go_meet
          exact⟨t,O,g,c,S0,P,U,rfl,rfl,s,y,A.lowm (by omega),fun b f=>by have:=B b f;omega,by omega,by omega,by omega,by omega,by omega,x⟩
      · go_simp
        obtain⟨u3,u⟩:∃wz,(u2.setCell ⟨t,0,none⟩ (.int .i64 d)).setCell ⟨t,1,none⟩ (.slice (some ⟨g,0,none⟩) ts.length c)=wz:=⟨_,rfl⟩
        have far:∀b,b≠t->u3.heap[b]? =u2.heap[b]? :=fun b f=>by rw [<-u];exact (Below.heap_setCell _ ⟨t,1,none⟩ _ b (fun e=>f e)).trans (Below.heap_setCell _ ⟨t,0,none⟩ _ b (fun e=>f e))
        have ak:u2.heap.size=u3.heap.size:=by rw [<-u,Ze,Ze]
        replace A:=A.sm (w':=u3) ⟨by omega,fun b f=>far b (by have:=B b f;omega)⟩
        have D:Below W.heap.size W u3:=by rw [<-u];exact (E.setCell (by show W.heap.size<=t;omega) _).setCell (by show W.heap.size<=t;omega) _
        replace s:Two u3 t (.int .i64 d) (.slice (some ⟨g,0,none⟩) ts.length c) 39:=by rw [<-u];exact (s.set0 _).set1 _
        first | rw [u] | skip
        refine r.out _ _ D (fun _=>?_)
        clear r K u far x0 x1 M J
        refine Zc 5 (by kernel_rfl) rfl (fun K r=>?_)
        · go_simp
          obtain⟨u4,l⟩:∃w0,u3.alloc (.cells #[.int .u32 0,.int .i32 0,.int .u32 0,.int .i64 d] 214)=w0:=⟨_,rfl⟩
          have a8:=balZ l
          obtain⟨O,H⟩:∃q,u3.heap.size=q:=⟨_,rfl⟩
          have y:Thr u4 O false d:=by rw [<-l,<-H];exact heap_alloc_new u3 _
          have sT:=y.lt
          first | rw [l] | skip
          first | rw [H] | skip
          have au:=a8.size
          replace A:=A.next a8
          replace s:=s.below a8
          have x:=Zb D a8
          refine r.out _ _ x (fun _=>?_)
          clear r K l
          refine ZB [8] rfl (by kernel_rfl) (by kernel_rfl) (by kernel_rfl) x ?_
          iterate 1 (refine⟨_,rfl,?_⟩;apply Exists.intro;refine⟨Or.inl ⟨by rfl,fun w' Q=>?_⟩,?_⟩;(focus (go_simp<;>with_reducible rfl));simp only [Act.put,tkgZ])
          refine NoPanic.normal (NoPanic.normal ?_)
          have ad:=y.lt
          have ar:=s.lt
          go_wp2_with fail
          go_meet
          exact⟨t,O,g,c,S0,P,U,rfl,rfl,s,y,A.lowm (by omega),fun b f=>by have:=B b f;omega,by omega,by omega,by omega,by omega,by omega,x⟩
    · go_simp
      obtain⟨u2,I⟩:∃w0,u1.alloc (.cells #[.int .u32 0,.int .i32 0,.int .u32 0,.int .i64 d] 214)=w0:=⟨_,rfl⟩
      have C:=balZ I
      obtain⟨O,H⟩:∃q,u1.heap.size=q:=⟨_,rfl⟩
      have y:Thr u2 O false d:=by rw [<-I,<-H];exact heap_alloc_new u1 _
      have sT:=y.lt
      first | rw [I] | skip
      first | rw [H] | skip
      have aN:=C.size
      replace s:=s.below C
      have E:=Zb a0 C
      refine r.out _ _ E (fun _=>?_)
      clear r K I
      refine Zc 1 (by kernel_rfl) rfl (fun K r=>?_)
      · go_simp
        refine (aD.out u2 E).mono ?_
        rintro e u3 ⟨vt,rfl,⟨S0,P,U,A⟩,z⟩
        obtain⟨g,c,rfl,an,aJ,aB,-⟩:=A.nonil (by have:=H4.out;omega)
        have B:∀b,FtR (.slice (some ⟨g,0,none⟩) ts.length c) ts.length S0 b->u2.heap.size<=b/\b<u3.heap.size:=fun b f=>A.bnd b f
        have ak:=z.size
        replace y:=y.sm (z.block _ y.lt)
        replace s:=s.below z
        have D:=Zb E z
        refine r.out _ _ D (fun _=>?_)
        clear r K
        have x0:=s.c0
        have x1:=s.c1
        have M:=s.frozen 0
        have J:=s.frozen 1
        refine Zc 7 (by kernel_rfl) rfl (fun K r=>?_)
        · go_simp
          obtain⟨u4,l⟩:∃wz,(u3.setCell ⟨t,0,none⟩ (.int .i64 d)).setCell ⟨t,1,none⟩ (.slice (some ⟨g,0,none⟩) ts.length c)=wz:=⟨_,rfl⟩
          have far:∀b,b≠t->u4.heap[b]? =u3.heap[b]? :=fun b f=>by rw [<-l];exact (Below.heap_setCell _ ⟨t,1,none⟩ _ b (fun e=>f e)).trans (Below.heap_setCell _ ⟨t,0,none⟩ _ b (fun e=>f e))
          have au:u3.heap.size=u4.heap.size:=by rw [<-l,Ze,Ze]
          replace A:=A.sm (w':=u4) ⟨by omega,fun b f=>far b (by have:=B b f;omega)⟩
          have x:Below W.heap.size W u4:=by rw [<-l];exact (D.setCell (by show W.heap.size<=t;omega) _).setCell (by show W.heap.size<=t;omega) _
          replace s:Two u4 t (.int .i64 d) (.slice (some ⟨g,0,none⟩) ts.length c) 39:=by rw [<-l];exact (s.set0 _).set1 _
          first | rw [l] | skip
          replace y:=y.sm (w':=u4) (far O (by omega))
          refine r.out _ _ x (fun _=>?_)
          clear r K l far x0 x1 M J
          refine ZB [8] rfl (by kernel_rfl) (by kernel_rfl) (by kernel_rfl) x ?_
          iterate 1 (refine⟨_,rfl,?_⟩;apply Exists.intro;refine⟨Or.inl ⟨by rfl,fun w' Q=>?_⟩,?_⟩;(focus (go_simp<;>with_reducible rfl));simp only [Act.put,tkgZ])
          refine NoPanic.normal (NoPanic.normal ?_)
          have ad:=y.lt
          have ar:=s.lt
          go_wp2_with fail
          go_meet
          exact⟨t,O,g,c,S0,P,U,rfl,rfl,s,y,A.lowm (by omega),fun b f=>by have:=B b f;omega,by omega,by omega,by omega,by omega,by omega,x⟩
 case rest=>
  obtain⟨R,T,g,c,S0,P,U,rfl,rfl,s,y,hS,B,cf,cN,dB,-,-,LW⟩:=hcut
  generalize hwc:wc=w3 at *
  clear hwc wc L0
  obtain⟨g0,c0,bQ,an,aJ,aB,-⟩:=hS.nonil (by have:=H4.out;omega)
  obtain rfl:g=g0:=by injection bQ with h1 h2 h3;injection h1 with h1;injection h1
  clear bQ aB
  have ch:=Za hS
  have cd:=Za s
  have bT:=Za y
  have cP:=Za LW
  have bS:=Za cf
  have aF:Hid ((∀i b,i<ts.length->S0 i b->b≠R/\b≠T)/\g≠R/\g≠T):=⟨fun i b hi f=>B b (Or.inr ⟨i,hi,f⟩),B g (Or.inl rfl)⟩
  clear hS s y LW B cf
  go_wp2_with fail
  go_loopg [8] N (fun gk iv wr=>∃(k:Nat) (S:Nat->Nat->Prop) (vm vl:Nat->Value) (o:Bool),k<=N/\N-k<=gk/\iv=.int .i64 k/\Zeq m ts k=true/\TsR true W.heap.size wr (.slice (some ⟨g,0,none⟩) ts.length c) (ZeW m ts k) S vm vl/\(∀i b,i<ts.length->S i b->b≠R/\b≠T)/\Two wr R (.int .i64 d) (.slice (some ⟨g,0,none⟩) ts.length c) 39/\Thr wr T o (if o then Zan d else d)/\Below W.heap.size W wr)
  case atStart=>exact⟨0,_,_,_,false,Nat.zero_le _,Nat.sub_le _ _,rfl,rfl,ch.out,aF.out.1,cd.out,bT.out,cP.out⟩
  case round=>
   obtain⟨k,S,vm,vl,o,hk,dl,rfl,cu,hp,c5,bV,aj,L⟩:=hrel
   have ce:=Za (Zh8 o T d wr aj)
   have bF:=Za hp
   have aK:=Za bV
   have bG:=Za L
   have ba:=Za c5
   have bY:=Za cu
   clear hp bV L c5 cu aj
   go_wp2_with fail
   refine ce.out.mono ?_
   rintro e wp ⟨rfl,aj,a7⟩
   have b7:=Za aj
   have HL:Hid (Below W.heap.size W wp):=bG.out.trans (a7.below bG.out.size (fun i e=>by have e':i=T:=e;omega))
   have HP:=Za (bF.out.sm (a7.sm (fun b f=>(bF.out.bnd b f).2) (fun b f e=>by
    have e':b=T:=e
    rcases f with f | ⟨i,hi,f⟩
    · injection f with f;exact aF.out.2.2 (f.trans e')
    · exact (ba.out i b (by rw [ZbN] at hi;exact hi) f).2 e')))
   have HT:Hid (Two wp R (.int .i64 d) (.slice (some ⟨g,0,none⟩) ts.length c) 39):=(a7.2.2.2.2 R aK.out.lt (fun e=>bS.out e)).trans aK.out
   have aO:=Za (Zpg (Zan d) wp)
   rw [cq.out] at aO
   clear aj a7 ce bF aK bG
   by_cases hlt:k<N
   · have bl:((k:Int)<=(N:Int)-1):=by omega
     go_wp2_with fail
     refine aO.out.mono ?_
     rintro e V ⟨rfl,bB⟩
     subst bB
     have c3:=HV.out V HL.out
     have bD:k<ts.length:=by have:=H4.out;omega
     obtain⟨wb,aL,am,cm,al,cl,rfl,bE,c0,c1,cr,bZ,aR⟩:=c3.web bD
     have bj:=Zd2 bc.out.1 (n:=k) (by omega)
     have aA:=Za ((Below.refl V.heap.size V).drew)
     have bd:=Za (fun Z (L':Below V.heap.size V Z)=>iLnkC am al at' cm cl ct (Zi ts k) m Z (cr.next L') (bZ.next L') (HM.out Z (Zb HL.out L')) bc.out.2.2 (aR rfl).1 (aR rfl).2 (bc.out.2.1.2 k).1 (bc.out.2.1.2 k).2 bj)
     have dj:=(aV.out.below HL.out).lt
     have da:=(bv.out.below HL.out).lt
     have aU:Hid (∀Z,Below V.heap.size V Z->Z.cell? ⟨w.heap.size,1,none⟩=some (.slice (some ⟨wb,aL,none⟩) ts.length cw)/\Z.cell? ⟨wb,aL+k*2,none⟩=some (.slice am (Zi ts k).1.length cm)/\Z.cell? ⟨wb,aL+k*2+1,none⟩=some (.slice al (Zi ts k).2.length cl)/\Z.cell? ⟨w.heap.size+1,0,none⟩=some (.int .i64 m.1)/\Z.cell? ⟨w.heap.size+1,1,none⟩=some (.slice at' m.2.length ct)/\(0:Int)<=(k:Int)/\(k:Int)<(ts.length:Int)):=fun Z L'=>⟨((aV.out.below HL.out).below L').c1,(L'.cell (p:=⟨wb,aL+k*2,none⟩) bE).trans c0,(L'.cell (p:=⟨wb,aL+k*2+1,none⟩) bE).trans c1,((bv.out.below HL.out).below L').c0,((bv.out.below HL.out).below L').c1,Int.natCast_nonneg _,by omega⟩
     obtain⟨ml,cj⟩:∃ml,(Zi ts k).1.length=ml:=⟨_,rfl⟩
     obtain⟨ll,cb⟩:∃ll,(Zi ts k).2.length=ll:=⟨_,rfl⟩
     rw [cj,cb] at bd aU
     clear c3 cr bZ c0 c1 aR bj cj cb bE
     go_wp2_with fail
     go_cut [9,10] from 21 to 46 (fun v b wx=>∃X a1 l1 c1 a2 l2 c2 F,v=.pointer (some ⟨X,0,none⟩)/\b=.bool (Zt ((Zi ts k).1++[m]))/\Two wx X (.slice a1 l1 c1) (.slice a2 l2 c2) 158/\(Zt ((Zi ts k).1++[m])=true->OwW true F wx (.slice a1 l1 c1) (.slice a2 l2 c2) (Zh4 m (Zi ts k)).1 (Zh4 m (Zi ts k)).2)/\(∀b,F b->V.heap.size<=b)/\V.heap.size<=X/\Below V.heap.size V wx)
     case first=>
      refine Zl (S:=fun Z=>Below V.heap.size V Z) (fuel:=7) [0,1,2,3,4,5] (by kernel_rfl) (by kernel_rfl) (by kernel_rfl) (by kernel_rfl) aA.out (fun _=>?_)
      iterate 6 (refine⟨_,rfl,?_⟩;apply Exists.intro;refine⟨Or.inl ⟨by rfl,fun w' Q=>?_⟩,?_⟩;(focus (obtain⟨e1,e2,e3,e4,e5,e6⟩:=aU.out w' Q;go_simp<;>with_reducible rfl));simp only [Act.put,tkgZ])
      obtain⟨G,aq⟩:∃w0,V.drew=w0:=⟨_,rfl⟩
      have B0:Below V.heap.size V G:=by rw [<-aq];exact aA.out
      have s0:V.heap.size<=G.heap.size:=B0.size
      rw [aq]
      clear aq
      refine ZA 6 10 (by kernel_rfl) rfl rfl (fun K r=>?_) (fun K r=>?_)
      · go_simp
        refine (bd.out G B0).mono ?_
        rintro e w2 ⟨a1,l1,c1,a2,l2,c2,F,rfl,aM,hF,L2⟩
        have LA:=Zb B0 L2
        refine r.out _ _ LA (fun br=>?_)
        clear r K
        refine Zz 3 [7,8,9] (by kernel_rfl) (by kernel_rfl) (by kernel_rfl) br ?_
        iterate 3 (refine⟨_,rfl,?_⟩;apply Exists.intro;refine⟨Or.inl ⟨by rfl,fun w' Q=>?_⟩,?_⟩;(focus (go_simp<;>with_reducible rfl));simp only [Act.put,tkgZ])
        refine Zc 10 (by kernel_rfl) rfl (fun K r=>?_)
        go_simp
        refine r.out _ _ (LA.alloc LA.size _) (fun _=>?_)
        clear r K
        refine Zc 11 (by kernel_rfl) rfl (fun K r=>?_)
        go_simp
        obtain⟨wz,b0⟩:∃wz,w2.alloc (.cells #[(.slice a1 l1 c1),(.slice a2 l2 c2)] 158)=wz:=⟨_,rfl⟩
        have LZ:=balZ b0
        have aQ:=Za (Zb LA LZ)
        have bo:Hid (Two wz w2.heap.size (.slice a1 l1 c1) (.slice a2 l2 c2) 158):=by show Two _ _ _ _ _;rw [<-b0];exact Two.new w2 _ _ _
        have bt:=Za (fun h=>(aM h).next LZ)
        have be:Hid ((∀b,F b->V.heap.size<=b)/\V.heap.size<=w2.heap.size):=⟨fun b f=>by have:=(hF b f).1;omega,LA.size⟩
        rw [b0]
        refine r.out _ _ aQ.out (fun bK=>?_)
        clear r K b0 aM hF LA L2 LZ
        refine ZB [12] rfl (by kernel_rfl) (by kernel_rfl) (by kernel_rfl) bK ?_
        iterate 1 (refine⟨_,rfl,?_⟩;apply Exists.intro;refine⟨Or.inl ⟨by rfl,fun w' Q=>?_⟩,?_⟩;(focus (go_simp<;>with_reducible rfl));simp only [Act.put,tkgZ])
        refine NoPanic.normal (NoPanic.normal ?_)
        go_wp2_with fail
        go_meet
        exact⟨_,a1,l1,c1,a2,l2,c2,F,rfl,rfl,bo.out,bt.out,be.out.1,be.out.2,aQ.out⟩
      · go_simp
        obtain⟨Wx,b9⟩:∃Z,G.alloc (.cells #[.slice none 0 0,.slice none 0 0] 158)=Z:=⟨_,rfl⟩
        obtain⟨Xb,co⟩:∃q,G.heap.size=q:=⟨_,rfl⟩
        have LX:Below V.heap.size V Wx:=by rw [<-b9];exact B0.alloc s0 _
        have ao:Two Wx Xb (.slice none 0 0) (.slice none 0 0) 158:=by rw [<-b9,<-co];exact Two.new G _ _ _
        have bJ:V.heap.size<=Xb:=by omega
        have dx:=ao.lt
        first | rw [b9] | skip
        first | rw [co] | skip
        refine r.out _ _ LX (fun _=>?_)
        clear r K b9
        refine Zc 6 (by kernel_rfl) rfl (fun K r=>?_)
        go_simp
        refine (bd.out Wx LX).mono ?_
        rintro e w2 ⟨a1,l1,c1,a2,l2,c2,F,rfl,aM,hF,L2⟩
        have LA:=Zb LX L2
        have aC:=ao.below L2
        refine r.out _ _ LA (fun br=>?_)
        clear r K
        refine Zz 2 [7,8,9] (by kernel_rfl) (by kernel_rfl) (by kernel_rfl) br ?_
        iterate 3 (refine⟨_,rfl,?_⟩;apply Exists.intro;refine⟨Or.inl ⟨by rfl,fun w' Q=>?_⟩,?_⟩;(focus (go_simp<;>with_reducible rfl));simp only [Act.put,tkgZ])
        have x0:=aC.c0
        have x1:=aC.c1
        have M:=aC.frozen 0
        have J:=aC.frozen 1
        refine Zc 11 (by kernel_rfl) rfl (fun K r=>?_)
        go_simp
        have aQ:=Za ((LA.setCell (by show V.heap.size<=Xb;exact bJ) (.slice a1 l1 c1):Below V.heap.size V (w2.setCell ⟨Xb,0,none⟩ (.slice a1 l1 c1))).setCell (by show V.heap.size<=Xb;exact bJ) (.slice a2 l2 c2):Below V.heap.size V ((w2.setCell ⟨Xb,0,none⟩ (.slice a1 l1 c1)).setCell ⟨Xb,1,none⟩ (.slice a2 l2 c2)))
        have bo:=Za ((aC.set0 (.slice a1 l1 c1)).set1 (.slice a2 l2 c2))
        have bt:=Za (fun h=>(aM h).sm (w':=(w2.setCell ⟨Xb,0,none⟩ (.slice a1 l1 c1)).setCell ⟨Xb,1,none⟩ (.slice a2 l2 c2)) ⟨by rw [Ze,Ze];exact Nat.le_refl _,fun b f=>(Below.heap_setCell _ ⟨Xb,1,none⟩ _ b (fun e=>by have e':b=Xb:=e;have:=(hF b f).1;omega)).trans (Below.heap_setCell _ ⟨Xb,0,none⟩ _ b (fun e=>by have e':b=Xb:=e;have:=(hF b f).1;omega))⟩)
        have be:Hid (∀b,F b->V.heap.size<=b):=fun b f=>by have:=(hF b f).1;omega
        clear aM hF
        generalize (w2.setCell ⟨Xb,0,none⟩ (.slice a1 l1 c1)).setCell ⟨Xb,1,none⟩ (.slice a2 l2 c2)=wz at *
        refine r.out _ _ aQ.out (fun bK=>?_)
        clear r K x0 x1 M J LA L2 aC
        refine ZB [12] rfl (by kernel_rfl) (by kernel_rfl) (by kernel_rfl) bK ?_
        iterate 1 (refine⟨_,rfl,?_⟩;apply Exists.intro;refine⟨Or.inl ⟨by rfl,fun w' Q=>?_⟩,?_⟩;(focus (go_simp<;>with_reducible rfl));simp only [Act.put,tkgZ])
        refine NoPanic.normal (NoPanic.normal ?_)
        go_wp2_with fail
        go_meet
        exact⟨Xb,a1,l1,c1,a2,l2,c2,F,rfl,rfl,bo.out,bt.out,be.out,bJ,aQ.out⟩
     case rest=>
      obtain⟨X,a1,l1,c1,a2,l2,c2,F,rfl,rfl,ao,bx,c4,dD,LW⟩:=hcut
      generalize hwc:wc=w5 at *
      clear hwc wc bd aU aA aO
      have av:=Za (Zb HL.out LW)
      have ck:=Za (HP.out.next LW)
      have bw:=Za (HT.out.below LW)
      have cc:=Za (b7.out.sm (LW.block T b7.out.lt))
      rcases hmb:Zt ((Zi ts k).1++[m]) with _ | _
      · have bk:=aV.out.below av.out
        have k0:=bk.c0
        have k1:=bk.c1
        have c9:=Za (aD.out w5 av.out)
        have c7:Hid (ZcX m ts d=false):=Zkc hmb (by rw [HN.out];exact hlt)
        clear bx ao bk
        go_wp2_with fail
        refine c9.out.mono ?_
        rintro e w6 ⟨vt,rfl,bW,L6⟩
        obtain⟨va,vc,rfl⟩:∃va vc,vt=.slice va ts.length vc:=by obtain⟨_,_,_,h⟩:=bW;obtain⟨a,c,e,-⟩:=h.form;exact⟨a,c,e⟩
        have aE:=bA.out.below (Zb av.out L6)
        have r0:=aE.c0
        have r1:=aE.c1
        have cW:=aE.frozen 0
        have cM:=aE.frozen 1
        have bs:=(aE.set0 (.int .i64 d)).set1 (.slice va ts.length vc)
        have q0:=bs.c0
        have q1:=bs.c1
        obtain⟨S1,cH,cK,ax⟩:=bW
        have dv:=av.out.size
        have d1:=c6.out
        have bI:=Za ((ax.sm (w':=(w6.setCell ⟨w.heap.size+1+1,0,none⟩ (.int .i64 d)).setCell ⟨w.heap.size+1+1,1,none⟩ (.slice va ts.length vc)) ⟨by rw [Ze,Ze];exact Nat.le_refl _,fun b f=>(Below.heap_setCell _ ⟨w.heap.size+1+1,1,none⟩ _ b (fun e=>by have e':b=w.heap.size+1+1:=e;have:=(ax.bnd b f).1;omega)).trans (Below.heap_setCell _ ⟨w.heap.size+1+1,0,none⟩ _ b (fun e=>by have e':b=w.heap.size+1+1:=e;have:=(ax.bnd b f).1;omega))⟩).lowm (base':=w.heap.size) (by omega))
        have bq:=Za (((Zb HB.out (Zb av.out L6)).setCell (by show w.heap.size<=w.heap.size+1+1;omega) (.int .i64 d)).setCell (by show w.heap.size<=w.heap.size+1+1;omega) (.slice va ts.length vc):Below w.heap.size w ((w6.setCell ⟨w.heap.size+1+1,0,none⟩ (.int .i64 d)).setCell ⟨w.heap.size+1+1,1,none⟩ (.slice va ts.length vc)))
        clear ax aE bs L6 k0 k1
        go_wp2_with fail
        refine bodyPost_ret (v:=.tuple #[.agg #[.int .i64 d,(.slice va ts.length vc)],.bool false]) (by simp [results,Tryz.results132,go_sem,q0,q1]) rfl ?_
        refine⟨(.slice va ts.length vc),?_,⟨S1,cH,cK,?_⟩,bq.out⟩
        · unfold ZfC;rw [c7.out];rfl
        · unfold Zb2;rw [c7.out];exact bI.out
      · have cT:=Za (bx hmb)
        have ds:=Za hmb
        have az:=ZbN m ts k
        have bH:=HP.out
        rw [<-az] at bH
        have cp:=Za (bH.put LW (k:=k) (by rw [az];exact bD) cT.out c4 HL.out.size)
        rw [az] at cp
        have bb:∀i,i<(ZeW m ts k).length->w5.cell? ⟨g,i*2,none⟩=some (vm i)/\w5.cell? ⟨g,i*2+1,none⟩=some (vl i)/\∀j,w5.frozen? ⟨g,j,none⟩=false:=by
         obtain⟨g',c',cU,-,-,-,bb⟩:=(ck.out).nonil (by rw [az];omega)
         injection cU with h1 h2 h3
         injection h1 with h1
         injection h1 with h1
         subst h1
         exact bb
        obtain⟨e0,e1,ef⟩:=bb k (by rw [az];exact bD)
        have f0:=ef (k*2)
        have f1:=ef (k*2+1)
        have o1:=bw.out.c1
        have x0:=ao.c0
        have x1:=ao.c1
        have dp:=n0Z k
        have dt:(k:Int)<(ts.length:Int):=by omega
        have ci:g≠R:=aF.out.2.1
        have c8:g≠T:=aF.out.2.2
        have bR:Hid (Thr ((w5.setCell ⟨g,k*2,none⟩ (.slice a1 l1 c1)).setCell ⟨g,k*2+1,none⟩ (.slice a2 l2 c2)) T true (Zan d)):=cc.out.sm ((Below.heap_setCell _ ⟨g,k*2+1,none⟩ _ T (fun e=>c8 e.symm)).trans (Below.heap_setCell _ ⟨g,k*2,none⟩ _ T (fun e=>c8 e.symm)))
        have HE:Hid (Two ((w5.setCell ⟨g,k*2,none⟩ (.slice a1 l1 c1)).setCell ⟨g,k*2+1,none⟩ (.slice a2 l2 c2)) R (.int .i64 d) (.slice (some ⟨g,0,none⟩) ts.length c) 39/\Below W.heap.size W ((w5.setCell ⟨g,k*2,none⟩ (.slice a1 l1 c1)).setCell ⟨g,k*2+1,none⟩ (.slice a2 l2 c2))):=
         ⟨(bw.out.far ci _).far ci _,(av.out.setCell (by show W.heap.size<=g;exact an) _).setCell (by show W.heap.size<=g;exact an) _⟩
        have dz:=HT.out.lt
        have ad:=b7.out.lt
        have cB:Hid (∀i b,i<ts.length->ZcA S k F i b->b≠R/\b≠T):=fun i b hi f=>by
         unfold ZcA at f
         by_cases e:i=k
         · rw [if_pos e] at f;have:=c4 b f;omega
         · rw [if_neg e] at f;exact ba.out i b hi f
        have cV:=Za (Zh5 bY.out hmb)
        clear bH az bb ef bx ao HP HT HL ck bw av LW
        go_wp2_with fail
        go_roundg (N-(k+1))
        case rel=>exact⟨k+1,_,_,_,true,by omega,Nat.le_refl _,by go_num,cV.out,cp.out,cB.out,HE.out.1,bR.out,HE.out.2⟩
        case measure=>omega
   · obtain rfl:k=N:=by omega
     have bl:¬((k:Int)<=(k:Int)-1):=by omega
     have bg:Hid (ZcX m ts d=true):=by show Zeq m ts (ZfB d)=true;rw [HN.out];exact bY.out
     have d2:=Za (Zh8 true T d wp b7.out)
     go_wp2_with fail
     refine aO.out.mono ?_
     rintro e V ⟨rfl,bB⟩
     subst bB
     clear aO
     go_wp2_with fail
     refine d2.out.mono ?_
     rintro e wq ⟨rfl,aj,a7⟩
     have b6:Below W.heap.size W wq:=HL.out.trans (a7.below HL.out.size (fun i e=>by have e':i=T:=e;omega))
     have bX:=HP.out.sm (a7.sm (fun b f=>(HP.out.bnd b f).2) (fun b f e=>by
      have e':b=T:=e
      rcases f with f | ⟨i,hi,f⟩
      · injection f with f;exact aF.out.2.2 (f.trans e')
      · exact (ba.out i b (by rw [ZbN] at hi;exact hi) f).2 e'))
     have b8:Two wq R (.int .i64 d) (.slice (some ⟨g,0,none⟩) ts.length c) 39:=(a7.2.2.2.2 R HT.out.lt (fun e=>bS.out e)).trans HT.out
     have y0:=b8.c0
     have yf:=b8.frozen 0
     have t2:=bA.out.below b6
     obtain⟨ap,ay⟩:∃ap,wq.setCell ⟨R,0,none⟩ (.int .i64 (Zan d))=ap:=⟨_,rfl⟩
     have hz:=b6.size
     have d1:=c6.out
     have bu:Two ap R (.int .i64 (Zan d)) (.slice (some ⟨g,0,none⟩) ts.length c) 39:=by rw [<-ay];exact b8.set0 _
     have b4:Below W.heap.size W ap:=by rw [<-ay];exact b6.setCell (by show W.heap.size<=R;exact cN) _
     have b5:TsR true W.heap.size ap (.slice (some ⟨g,0,none⟩) ts.length c) (ZeW m ts k) S vm vl:=bX.sm (by
      rw [<-ay]
      refine⟨by rw [Ze];exact Nat.le_refl _,fun b f=>Below.heap_setCell _ ⟨R,0,none⟩ _ b (fun e=>?_)⟩
      have e':b=R:=e
      rcases f with f | ⟨i,hi,f⟩
      · injection f with f;exact aF.out.2.1 (f.trans e')
      · exact (ba.out i b (by rw [ZbN] at hi;exact hi) f).1 e')
     have t2:=bA.out.below b4
     have r0:=t2.c0
     have r1:=t2.c1
     have cW:=t2.frozen 0
     have cM:=t2.frozen 1
     have x0:=bu.c0
     have x1:=bu.c1
     have t3:=(t2.set0 (.int .i64 (Zan d))).set1 (.slice (some ⟨g,0,none⟩) ts.length c)
     have q0:=t3.c0
     have q1:=t3.c1
     have du:=b4.size
     have bI:=Za ((b5.sm (w':=(ap.setCell ⟨w.heap.size+1+1,0,none⟩ (.int .i64 (Zan d))).setCell ⟨w.heap.size+1+1,1,none⟩ (.slice (some ⟨g,0,none⟩) ts.length c)) ⟨by rw [Ze,Ze];exact Nat.le_refl _,fun b f=>(Below.heap_setCell _ ⟨w.heap.size+1+1,1,none⟩ _ b (fun e=>by have e':b=w.heap.size+1+1:=e;have:=(b5.bnd b f).1;omega)).trans (Below.heap_setCell _ ⟨w.heap.size+1+1,0,none⟩ _ b (fun e=>by have e':b=w.heap.size+1+1:=e;have:=(b5.bnd b f).1;omega))⟩).lowm (base':=w.heap.size) (by omega))
     have bq:=Za (((Zb HB.out b4).setCell (by show w.heap.size<=w.heap.size+1+1;omega) (.int .i64 (Zan d))).setCell (by show w.heap.size<=w.heap.size+1+1;omega) (.slice (some ⟨g,0,none⟩) ts.length c):Below w.heap.size w ((ap.setCell ⟨w.heap.size+1+1,0,none⟩ (.int .i64 (Zan d))).setCell ⟨w.heap.size+1+1,1,none⟩ (.slice (some ⟨g,0,none⟩) ts.length c)))
     clear t2 t3 aj a7 b6 bX b8 bu b4 b5 HP HT HL
     go_wp2_with fail
     try rw [ay]
     go_wp2_with fail
     refine bodyPost_ret (v:=.tuple #[.agg #[.int .i64 (Zan d),.slice (some ⟨g,0,none⟩) ts.length c],.bool true]) (by simp [results,Tryz.results132,go_sem,q0,q1]) rfl ?_
     refine⟨.slice (some ⟨g,0,none⟩) ts.length c,?_,⟨S,vm,vl,?_⟩,bq.out⟩
     · unfold ZfC;rw [bg.out];rfl
     · unfold Zb2;rw [bg.out,HN.out];exact bI.out
def rT(m:Mk)(ts:List Wb)(d:Int):List Wb:=if Zap d ts=true then Zb2 m ts d else []
theorem ZnY{x:Wb}(h:Zax x.1 x.2=true):ZL x.1/\Z7 x.2:=by
 obtain⟨d,b,c,a⟩:=ZaW h
 exact⟨⟨by omega,fun i=>by have:=b i;omega⟩,⟨by omega,fun i=>by have:=a i;omega⟩⟩
theorem Zje{m:Mk}{ts:List Wb}:∀{n:Nat},Zeq m ts n=true->∀k,k<n->Zt ((Zi ts k).1++[m])=true
 | 0,_,k,hk=>by omega
 | n+1,h,k,hk=>by
   unfold Zeq at h
   rw [Bool.and_eq_true] at h
   rcases Nat.lt_or_ge k n with h1 | h1
   · exact Zje h.1 k h1
   · obtain rfl:k=n:=by omega
     exact h.2
theorem Zkf{m:Mk}{ts:List Wb}{d:Int}(hok:Zap d ts=true)(i:Nat)(hi:i<4):Zax (Zi (Zb2 m ts d) i).1 (Zi (Zb2 m ts d) i).2=true:=by
 have a:=Zd2 hok (n:=i) hi
 unfold Zb2
 by_cases h:ZcX m ts d=true
 · rw [if_pos h]
   obtain⟨-,-,b⟩:=Ze8 (Zhc hok)
   rw [Zkd m ts _ (by have:=(ZdM hok).1;omega)]
   by_cases e:i<ZfB d
   · rw [if_pos e]
     exact ZfA a (Zje h i e) (ZcM (ZY a))
   · rw [if_neg e];exact a
 · rw [if_neg h];exact a
theorem Zjf(m:Mk)(ts:List Wb)(d:Int):(rT m ts d).length<=4:=by
 unfold rT
 by_cases h:Zap d ts=true
 · rw [if_pos h]
   have:=(ZdM h).1
   unfold Zb2
   by_cases h2:ZcX m ts d=true
   · rw [if_pos h2,ZbN];omega
   · rw [if_neg h2];omega
 · rw [if_neg h];simp
theorem Zph(m:Mk)(ts:List Wb)(d:Int):Z1 (rT m ts d):=by
 refine⟨by have:=Zjf m ts d;omega,fun i=>?_⟩
 have a:ZL (([],[]):Wb).1/\Z7 (([],[]):Wb).2:=⟨⟨by simp,fun i=>by simp [mat]⟩,⟨by simp,fun i=>by simp [cn]⟩⟩
 unfold rT
 by_cases h:Zap d ts=true
 · rw [if_pos h]
   rcases Nat.lt_or_ge i 4 with h1 | h1
   · exact ZnY (Zkf h i h1)
   · have b:(Zb2 m ts d).length<=i:=by have:=Zjf m ts d;unfold rT at this;rw [if_pos h] at this;omega
     have:Zi (Zb2 m ts d) i=([],[]):=by unfold Zi;rw [List.getD_eq_getElem?_getD,List.getElem?_eq_none b];rfl
     rw [this];exact a
 · rw [if_neg h]
   have:Zi [] i=([],[]):=by simp [Zi]
   rw [this];exact a
def ZbY(base:Nat)(w:World)(a:Option Addr)(ts:List Wb):Prop:=∀w':World,w.heap.size<=w'.heap.size->(∀b,base<=b->b<w.heap.size->w'.heap[b]? =w.heap[b]?)->Zp true w' a ts
theorem TsR.kept{o:Bool}{base:Nat}{w:World}{a:Option Addr}{n c:Nat}{ts:List Wb}{S:Nat->Nat->Prop}{vm vl:Nat->Value}(h:TsR o base w (.slice a n c) ts S vm vl):ZbY base w a ts:=fun w' hs e=>by
 obtain⟨a',c',e',-,hv⟩:=(h.sm (w':=w') ⟨hs,fun b hb=>e b (h.bnd b hb).1 (h.bnd b hb).2⟩).form
 injection e' with e1 e2 e3
 subst e1
 exact hv
end Go.Proofs.YtilkaeclgmcolaaGreat
