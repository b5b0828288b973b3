import Derived.Test.YtilkaeclgmcolaaGreatSsClZz
import Derived.Test.YtilkaeclgmcolaaGreatStMarkZz
import Derived.Test.YtilkaeclgmcolaaGreatCmMemZz
import Derived.Test.YtilkaeclgmcolaaGreatDkOkZz
import Derived.Test.YtilkaeclgmcolaaGreatGnStZz
set_option maxRecDepth 100000
set_option maxHeartbeats 16000000
namespace Go.Proofs.YtilkaeclgmcolaaGreat
open Go Go.RowKit
theorem Zc0(am aw aq ao:Option Addr)(cm cw cs ca:Nat)(wd d nx cl sq kd id r:Int)(ms:List Mk)(ts:List Wb)(ss ss':List Zv)(p:List Int)(t:St5)(w:World)(hm:Zo w am ms)(hw:Zp false w aw ts)(hs:Zm w aq ss)(hf:ZeF ms ts)(hn:ss.length<=maxLen)(hp:Zy w ao p)(hpn:p.length<=maxLen)
 (hsm':Zbi ms ts ss->Zbi t.ms t.ts ss')
 (hS:Zbi ms ts ss->p.length<=1048576->∀(W:World) (m b s c:Nat),Zo W (some ⟨m,0,none⟩) ms->Zp true W (some ⟨b,0,none⟩) ts->Zm W (some ⟨s,0,none⟩) ss->Zy W (some ⟨c,0,none⟩) p->Calls Tryz.prog 9 #[.agg #[.int .i64 wd,.slice (some ⟨m,0,none⟩) ms.length ms.length,.int .i64 d,.slice (some ⟨b,0,none⟩) ts.length ts.length,.int .i64 nx,.slice (some ⟨s,0,none⟩) ss.length ss.length],.agg #[.int .i64 cl,.int .i64 sq,.int .i64 kd,.int .i64 id,.slice (some ⟨c,0,none⟩) p.length p.length]] W fun e w'=>∃x,e=.returned (.tuple #[x,.int .i64 r])/\ZlB W.heap.size w' x t ss'/\Below W.heap.size W w')
 (hI:Zbi ms ts ss->p.length<=1048576->∀(W:World) (m b s c:Nat),Zo W (some ⟨m,0,none⟩) ms->Zp true W (some ⟨b,0,none⟩) ts->Zm W (some ⟨s,0,none⟩) ss->Zy W (some ⟨c,0,none⟩) p->Calls Tryz.prog 12 #[.agg #[.int .i64 wd,.slice (some ⟨m,0,none⟩) ms.length ms.length,.int .i64 d,.slice (some ⟨b,0,none⟩) ts.length ts.length,.int .i64 nx,.slice (some ⟨s,0,none⟩) ss.length ss.length],.agg #[.int .i64 cl,.int .i64 sq,.int .i64 kd,.int .i64 id,.slice (some ⟨c,0,none⟩) p.length p.length]] W fun e w'=>∃x,e=.returned (.tuple #[x,.int .i64 r])/\DkP (Btw W.heap.size w'.heap.size) w' x t ss'/\Below W.heap.size W w'):
 Calls Tryz.prog 3 #[.agg #[.int .i64 wd,.slice am ms.length cm,.int .i64 d,.slice aw ts.length cw,.int .i64 nx,.slice aq ss.length cs],.agg #[.int .i64 cl,.int .i64 sq,.int .i64 kd,.int .i64 id,.slice ao p.length ca]] w fun e w'=>e=.returned (.bool true)/\Below w.heap.size w w':=by
 obtain⟨W1,bu⟩:∃W,w.alloc (.cells #[.int .i64 wd,.slice am ms.length cm,.int .i64 d,.slice aw ts.length cw,.int .i64 nx,.slice aq ss.length cs] 30)=W:=⟨_,rfl⟩
 obtain⟨W,hW⟩:∃W,W1.alloc (.cells #[.int .i64 cl,.int .i64 sq,.int .i64 kd,.int .i64 id,.slice ao p.length ca] 33)=W:=⟨_,rfl⟩
 have b1:=balZ bu
 have b2:=balZ hW
 have s1:=salZ bu
 have cR:ZcW false W1 w.heap.size am aw aq cm cw cs wd ms d ts nx ss:=by rw [<-bu];exact ZcW.box hm hw hs
 have dl:Zcy W (w.heap.size+1) ao ca cl sq kd id p:=by rw [<-hW,<-s1];exact Zcy.box (hp.next b1)
 have av:=cR.below b2
 have HB:=Za (Zb b1 b2)
 have dd:=Za (szDk false am aw aq cm cw cs wd ms d ts nx ss W av.mv av.wv av.sv hf hn)
 have cD:=Za (And.intro av dl)
 have ey:=Za hpn
 have cd:=Za hsm'
 have d8:=Za hS
 have dB:=Za hI
 have fs:(r !=r)=false:=by simp
 have k0:=av.c0
 have k1:=av.c1
 have k2:=av.c2
 have k3:=av.c3
 have k4:=av.c4
 have k5:=av.c5
 have dM:Hid _:=aw2Z bu hW
 clear hm hw hs hf hn hp hpn hsm' hS hI b1 b2 s1 cR dl av bu hW
 go_enter Tryz.func3,Tryz.ntmps3
 go_upto_region 1 with fail
 rw [dM.out]
 clear dM
 go_wp2_with fail
 refine dd.out.mono ?_
 rintro e w1 ⟨r1,rfl,eY,hr,L1⟩
 by_cases hneg:r1<0
 · go_wp2_with fail
   go_ret
   exact⟨rfl,Zb HB.out L1⟩
 have cr:Zbi ms ts ss:=by rcases hr with h | h;exact absurd h hneg;exact h
 have aK:=Za cr
 have cj:=Za (cd.out cr)
 have ck:=Za L1
 have bj:=cD.out.2.below L1
 have dt:=Za (szCm ao ca cl sq kd id p r1 w1 bj.pv ey.out (by omega) eY)
 have f0:=bj.c0
 have f1:=bj.c1
 have f2:=bj.c2
 have f3:=bj.c3
 have f4:=bj.c4
 clear hr L1 dd cr bj k0 k1 k2 k3 k4 k5
 go_wp2_with fail
 refine dt.out.mono ?_
 rintro e w2 ⟨r2,rfl,-,hr,L2⟩
 by_cases hneg2:r2<0
 · have en:=Za (Zb HB.out (Zb ck.out L2))
   clear f0 f1 f2 f3 f4
   go_wp2_with fail
   go_ret
   exact⟨rfl,en.out⟩
 have aI:Hid (p.length<=1048576):=by rcases hr with h | h;exact absurd h hneg2;exact h
 have de:=Za (Zb HB.out (Zb ck.out L2))
 have HA:Hid (∀f,Below w2.heap.size w2 f->ZcW false f w.heap.size am aw aq cm cw cs wd ms d ts nx ss/\Zcy f (w.heap.size+1) ao ca cl sq kd id p):=by
  have dh:=Zb ck.out L2
  exact fun f L=>⟨(cD.out.1.below dh).below L,(cD.out.2.below dh).below L⟩
 have bO:=Za (Below.refl w2.heap.size w2)
 have HS:=Za (d8.out aK.out aI.out)
 have HI:Hid True:=trivial
 clear hr L2 dt cd d8 f0 f1 f2 f3 f4
 go_upto_region 8 with fail
 go_cut [6,7] from 27 to 34 (fun v b wx=>∃X J c1 I c2 M Z,v=.pointer (some ⟨X,0,none⟩)/\b=.int .i64 r/\wx.heap[X]? =some (.cells #[.int .i64 t.wd,.slice J t.ms.length c1,.int .i64 t.d,.slice I t.ts.length c2,.int .i64 t.nx,.slice M ss'.length Z] 44)/\Zo wx J t.ms/\Zp true wx I t.ts/\Zm wx M ss'/\Below w2.heap.size w2 wx)
 case first=>
  have bs:=Za (Below.drew (Below.refl w2.heap.size w2))
  have bE:=Za (fun (U:World) (L:Below w2.heap.size w2 U)=>toDk false am aw aq cm cw cs wd ms d ts nx ss U (HA.out U (Zb bO.out L)).1.mv (HA.out U (Zb bO.out L)).1.wv (HA.out U (Zb bO.out L)).1.sv aK.out)
  have b0:=Za (fun (U:World) (L:Below w2.heap.size w2 U)=>toCm ao ca cl sq kd id p U (HA.out U (Zb bO.out L)).2.pv aI.out)
  refine Zl (S:=fun f=>Below w2.heap.size w2 f) (fuel:=9) [0,2] (by kernel_rfl) (by kernel_rfl) (by kernel_rfl) (by kernel_rfl) bs.out (fun _=>?_)
  iterate 2 (refine⟨_,rfl,?_⟩;apply Exists.intro;refine⟨Or.inl ⟨by rfl,fun w' F=>?_⟩,?_⟩;(focus (obtain⟨hd,hc⟩:=HA.out w' (Zb bO.out F);have e0:=hd.c0;have e1:=hd.c1;have e2:=hd.c2;have e3:=hd.c3;have e4:=hd.c4;have e5:=hd.c5;have f0:=hc.c0;have f1:=hc.c1;have f2:=hc.c2;have f3:=hc.c3;have f4:=hc.c4;go_simp<;>with_reducible rfl));simp only [Act.put,tkgZ])
  obtain⟨y0,b5⟩:∃w0,w2.drew=w0:=⟨_,rfl⟩
  have aJ:Below w2.heap.size w2 y0:=by rw [<-b5];exact bs.out
  have ek:w2.heap.size<=y0.heap.size:=aJ.size
  rw [b5]
  clear b5
  refine ZA 1 8 (by kernel_rfl) rfl rfl (fun K g=>?_) (fun K g=>?_)
  · go_simp
    refine (bE.out y0 aJ).mono ?_
    rintro e y1 ⟨m2,b2,s2,rfl,⟨i2,cz,o2⟩,-,aj⟩
    have A:Zo y1 (some ⟨m2,0,none⟩) ms/\Zp true y1 (some ⟨b2,0,none⟩) ts/\Zm y1 (some ⟨s2,0,none⟩) ss:=⟨o2.st.mview,o2.st.wview,Zbt o2.row⟩
    have cF:=aj.size
    have a6:=Zb aJ aj
    clear o2
    refine g.out _ _ a6 (fun _=>?_)
    clear g K aj 
    refine ZA 3 8 (by kernel_rfl) rfl rfl (fun K g=>?_) (fun K g=>?_)
    · go_simp
      refine (b0.out y1 a6).mono ?_
      rintro e E ⟨bc,rfl,o3,-,u⟩
      have hU:Zy E (some ⟨bc,0,none⟩) p:=Own.view o3
      have bD:=u.size
      have Y:=Zb a6 u
      replace A:=(⟨A.1.next u,A.2.1.next u,A.2.2.next u⟩:Zo E (some ⟨m2,0,none⟩) ms/\Zp true E (some ⟨b2,0,none⟩) ts/\Zm E (some ⟨s2,0,none⟩) ss)
      clear o3
      refine g.out _ _ Y (fun _=>?_)
      clear g K u 
      refine ZA 4 8 (by kernel_rfl) rfl rfl (fun K g=>?_) (fun K g=>?_)
      · go_simp
        refine (HS.out E m2 b2 s2 bc A.1 A.2.1 A.2.2 hU).mono ?_
        rintro e l ⟨x,rfl,⟨J,c1,I,c2,M,Z,rfl,hx⟩,i⟩
        have bk:=i.size
        obtain⟨R,af⟩:∃R,E.heap.size=R:=⟨_,rfl⟩
        obtain⟨Q,ag⟩:∃Q,l.heap.size=Q:=⟨_,rfl⟩
        have bi:l.heap.size<=Q/\Q<=l.heap.size/\E.heap.size<=R/\R<=E.heap.size:=by omega
        have a4:∀f:World,l.heap.size<=f.heap.size->(∀b,R<=b->b<Q->f.heap[b]? =l.heap[b]?)->Zo f J t.ms/\Zp true f I t.ts/\Zm f M ss':=fun f g1 g2=>hx f g1 (fun b x y=>g2 b (by omega) (by omega))
        clear af hx
        clear ag
        have O:=Zb Y i
        refine g.out _ _ O (fun _=>?_)
        clear g K i 
        refine Zz 3 [5,6,7] (by kernel_rfl) (by kernel_rfl) (by kernel_rfl) O ?_
        iterate 3 (refine⟨_,rfl,?_⟩;apply Exists.intro;refine⟨Or.inl ⟨by rfl,fun w' F=>?_⟩,?_⟩;(focus (go_simp<;>with_reducible rfl));simp only [Act.put,tkgZ])
        refine Zc 8 (by kernel_rfl) rfl (fun K g=>?_)
        go_simp
        generalize au:World.alloc _ _=o
        have n:=balZ au
        obtain⟨a,C⟩:∃q,l.heap.size=q:=⟨_,rfl⟩
        have T:=nal2Z au C
        have ba:=altZ au
        have bh:l.heap.size<=a/\a<o.heap.size:=by omega
        first | rw [au] | skip
        first | rw [C] | skip
        have D:=Zb O n
        replace a4:∀f:World,o.heap.size<=f.heap.size->(∀b,R<=b->b<Q->f.heap[b]? =o.heap[b]?)->Zo f J t.ms/\Zp true f I t.ts/\Zm f M ss':=fun f g1 g2=>a4 f (by omega) (fun b x y=>(g2 b x y).trans (n.block b (by omega)))
        refine g.out _ _ D (fun _=>?_)
        clear g K n au C
        obtain⟨r0,r1,r2,r3,r4,r5,B,b8⟩:=Zh T
        have a8:=B 0
        have ac:=B 1
        have ab:=B 2
        have a9:=B 3
        have aa:=B 4
        have ad:=B 5
        have t6:=Zaf (a':=.int .i64 t.wd) (b':=.slice J t.ms.length c1) (c':=.int .i64 t.d) (d':=.slice I t.ts.length c2) (e':=.int .i64 t.nx) (f':=.slice M ss'.length Z) T
        refine Zc 9 (by kernel_rfl) rfl (fun K g=>?_)
        go_simp
        obtain⟨vz,k⟩:∃V,(((((o.setCell ⟨a,0,none⟩ (.int .i64 t.wd)).setCell ⟨a,1,none⟩ (.slice J t.ms.length c1)).setCell ⟨a,2,none⟩ (.int .i64 t.d)).setCell ⟨a,3,none⟩ (.slice I t.ts.length c2)).setCell ⟨a,4,none⟩ (.int .i64 t.nx)).setCell ⟨a,5,none⟩ (.slice M ss'.length Z)=V:=⟨_,rfl⟩
        have far:∀b,b≠a->vz.heap[b]? =o.heap[b]? :=fun b hb=>by rw [<-k];exact Zau hb
        have zz:vz.heap.size=o.heap.size:=by rw [<-k];simp [World.setCell]
        have G:w2.heap.size<=a:=by omega
        have Bz:Below w2.heap.size w2 vz:=by rw [<-k];exact ((((((D.setCell (p:=⟨a,0,none⟩) G _).setCell (p:=⟨a,1,none⟩) G _).setCell (p:=⟨a,2,none⟩) G _).setCell (p:=⟨a,3,none⟩) G _).setCell (p:=⟨a,4,none⟩) G _).setCell (p:=⟨a,5,none⟩) G _)
        rw [k] at t6 ⊢
        have j:=a4 vz (by omega) (fun b h1 h2=>far b (by omega))
        refine g.out _ _ Bz (fun _=>?_)
        clear g K k r0 r1 r2 r3 r4 r5 B a8 ac ab a9 aa ad
        refine ZB [10] (by kernel_rfl) (by kernel_rfl) (by kernel_rfl) (by kernel_rfl) Bz ?_
        iterate 1 (refine⟨_,rfl,?_⟩;apply Exists.intro;refine⟨Or.inl ⟨by rfl,fun w' F=>?_⟩,?_⟩;(focus (go_simp<;>with_reducible rfl));simp only [Act.put,tkgZ])
        refine NoPanic.normal (NoPanic.normal ?_)
        try simp only [Exit.then]
        go_wp2_with fail
        go_meet
        exact⟨a,J,c1,I,c2,M,Z,rfl,rfl,t6,j.1,j.2.1,j.2.2,Bz⟩
      · go_simp
        obtain⟨l,az⟩:∃w0,E.alloc (.cells #[.int .i64 0,.slice none 0 0,.int .i64 0,.slice none 0 0,.int .i64 0,.slice none 0 0] 44)=w0:=⟨_,rfl⟩
        have i:=balZ az
        obtain⟨a,C⟩:∃q,E.heap.size=q:=⟨_,rfl⟩
        have T:=nal2Z az C
        have bk:=altZ az
        have bh:E.heap.size<=a/\a<l.heap.size:=by omega
        first | rw [az] | skip
        first | rw [C] | skip
        have O:=Zb Y i
        replace A:=(⟨A.1.next i,A.2.1.next i,A.2.2.next i⟩:Zo l (some ⟨m2,0,none⟩) ms/\Zp true l (some ⟨b2,0,none⟩) ts/\Zm l (some ⟨s2,0,none⟩) ss)
        replace hU:Zy l (some ⟨bc,0,none⟩) p:=hU.next i
        refine g.out _ _ O (fun _=>?_)
        clear g K i az C
        refine Zc 4 (by kernel_rfl) rfl (fun K g=>?_)
        go_simp
        refine (HS.out l m2 b2 s2 bc A.1 A.2.1 A.2.2 hU).mono ?_
        rintro e o ⟨x,rfl,⟨J,c1,I,c2,M,Z,rfl,hx⟩,n⟩
        have ba:=n.size
        obtain⟨R,af⟩:∃R,l.heap.size=R:=⟨_,rfl⟩
        obtain⟨Q,ag⟩:∃Q,o.heap.size=Q:=⟨_,rfl⟩
        have bi:o.heap.size<=Q/\Q<=o.heap.size/\l.heap.size<=R/\R<=l.heap.size:=by omega
        have a4:∀f:World,o.heap.size<=f.heap.size->(∀b,R<=b->b<Q->f.heap[b]? =o.heap[b]?)->Zo f J t.ms/\Zp true f I t.ts/\Zm f M ss':=fun f g1 g2=>hx f g1 (fun b x y=>g2 b (by omega) (by omega))
        clear af hx
        clear ag
        have D:=Zb O n
        replace T:=(n.block a (by omega)).trans T
        refine g.out _ _ D (fun _=>?_)
        clear g K n 
        refine Zz 2 [5,6,7] (by kernel_rfl) (by kernel_rfl) (by kernel_rfl) D ?_
        iterate 3 (refine⟨_,rfl,?_⟩;apply Exists.intro;refine⟨Or.inl ⟨by rfl,fun w' F=>?_⟩,?_⟩;(focus (go_simp<;>with_reducible rfl));simp only [Act.put,tkgZ])
        obtain⟨r0,r1,r2,r3,r4,r5,B,b8⟩:=Zh T
        have a8:=B 0
        have ac:=B 1
        have ab:=B 2
        have a9:=B 3
        have aa:=B 4
        have ad:=B 5
        have t6:=Zaf (a':=.int .i64 t.wd) (b':=.slice J t.ms.length c1) (c':=.int .i64 t.d) (d':=.slice I t.ts.length c2) (e':=.int .i64 t.nx) (f':=.slice M ss'.length Z) T
        refine Zc 9 (by kernel_rfl) rfl (fun K g=>?_)
        go_simp
        obtain⟨vz,k⟩:∃V,(((((o.setCell ⟨a,0,none⟩ (.int .i64 t.wd)).setCell ⟨a,1,none⟩ (.slice J t.ms.length c1)).setCell ⟨a,2,none⟩ (.int .i64 t.d)).setCell ⟨a,3,none⟩ (.slice I t.ts.length c2)).setCell ⟨a,4,none⟩ (.int .i64 t.nx)).setCell ⟨a,5,none⟩ (.slice M ss'.length Z)=V:=⟨_,rfl⟩
        have far:∀b,b≠a->vz.heap[b]? =o.heap[b]? :=fun b hb=>by rw [<-k];exact Zau hb
        have zz:vz.heap.size=o.heap.size:=by rw [<-k];simp [World.setCell]
        have G:w2.heap.size<=a:=by omega
        have Bz:Below w2.heap.size w2 vz:=by rw [<-k];exact ((((((D.setCell (p:=⟨a,0,none⟩) G _).setCell (p:=⟨a,1,none⟩) G _).setCell (p:=⟨a,2,none⟩) G _).setCell (p:=⟨a,3,none⟩) G _).setCell (p:=⟨a,4,none⟩) G _).setCell (p:=⟨a,5,none⟩) G _)
        rw [k] at t6 ⊢
        have j:=a4 vz (by omega) (fun b h1 h2=>far b (by omega))
        refine g.out _ _ Bz (fun _=>?_)
        clear g K k r0 r1 r2 r3 r4 r5 B a8 ac ab a9 aa ad
        refine ZB [10] (by kernel_rfl) (by kernel_rfl) (by kernel_rfl) (by kernel_rfl) Bz ?_
        iterate 1 (refine⟨_,rfl,?_⟩;apply Exists.intro;refine⟨Or.inl ⟨by rfl,fun w' F=>?_⟩,?_⟩;(focus (go_simp<;>with_reducible rfl));simp only [Act.put,tkgZ])
        refine NoPanic.normal (NoPanic.normal ?_)
        try simp only [Exit.then]
        go_wp2_with fail
        go_meet
        exact⟨a,J,c1,I,c2,M,Z,rfl,rfl,t6,j.1,j.2.1,j.2.2,Bz⟩
    · go_simp
      obtain⟨E,ay⟩:∃w0,y1.alloc (.cells #[.int .i64 0,.slice none 0 0,.int .i64 0,.slice none 0 0,.int .i64 0,.slice none 0 0] 44)=w0:=⟨_,rfl⟩
      have u:=balZ ay
      obtain⟨a,C⟩:∃q,y1.heap.size=q:=⟨_,rfl⟩
      have T:=nal2Z ay C
      have bD:=altZ ay
      have bh:y1.heap.size<=a/\a<E.heap.size:=by omega
      first | rw [ay] | skip
      first | rw [C] | skip
      have Y:=Zb a6 u
      replace A:=(⟨A.1.next u,A.2.1.next u,A.2.2.next u⟩:Zo E (some ⟨m2,0,none⟩) ms/\Zp true E (some ⟨b2,0,none⟩) ts/\Zm E (some ⟨s2,0,none⟩) ss)
      refine g.out _ _ Y (fun _=>?_)
      clear g K u ay C
      refine Zc 3 (by kernel_rfl) rfl (fun K g=>?_)
      go_simp
      refine (b0.out E Y).mono ?_
      rintro e l ⟨bc,rfl,o3,-,i⟩
      have hU:Zy l (some ⟨bc,0,none⟩) p:=Own.view o3
      have bk:=i.size
      have O:=Zb Y i
      replace A:=(⟨A.1.next i,A.2.1.next i,A.2.2.next i⟩:Zo l (some ⟨m2,0,none⟩) ms/\Zp true l (some ⟨b2,0,none⟩) ts/\Zm l (some ⟨s2,0,none⟩) ss)
      clear o3
      replace T:=(i.block a (by omega)).trans T
      refine g.out _ _ O (fun _=>?_)
      clear g K i 
      refine Zc 4 (by kernel_rfl) rfl (fun K g=>?_)
      go_simp
      refine (HS.out l m2 b2 s2 bc A.1 A.2.1 A.2.2 hU).mono ?_
      rintro e o ⟨x,rfl,⟨J,c1,I,c2,M,Z,rfl,hx⟩,n⟩
      have ba:=n.size
      obtain⟨R,af⟩:∃R,l.heap.size=R:=⟨_,rfl⟩
      obtain⟨Q,ag⟩:∃Q,o.heap.size=Q:=⟨_,rfl⟩
      have bi:o.heap.size<=Q/\Q<=o.heap.size/\l.heap.size<=R/\R<=l.heap.size:=by omega
      have a4:∀f:World,o.heap.size<=f.heap.size->(∀b,R<=b->b<Q->f.heap[b]? =o.heap[b]?)->Zo f J t.ms/\Zp true f I t.ts/\Zm f M ss':=fun f g1 g2=>hx f g1 (fun b x y=>g2 b (by omega) (by omega))
      clear af hx
      clear ag
      have D:=Zb O n
      replace T:=(n.block a (by omega)).trans T
      refine g.out _ _ D (fun _=>?_)
      clear g K n 
      refine Zz 2 [5,6,7] (by kernel_rfl) (by kernel_rfl) (by kernel_rfl) D ?_
      iterate 3 (refine⟨_,rfl,?_⟩;apply Exists.intro;refine⟨Or.inl ⟨by rfl,fun w' F=>?_⟩,?_⟩;(focus (go_simp<;>with_reducible rfl));simp only [Act.put,tkgZ])
      obtain⟨r0,r1,r2,r3,r4,r5,B,b8⟩:=Zh T
      have a8:=B 0
      have ac:=B 1
      have ab:=B 2
      have a9:=B 3
      have aa:=B 4
      have ad:=B 5
      have t6:=Zaf (a':=.int .i64 t.wd) (b':=.slice J t.ms.length c1) (c':=.int .i64 t.d) (d':=.slice I t.ts.length c2) (e':=.int .i64 t.nx) (f':=.slice M ss'.length Z) T
      refine Zc 9 (by kernel_rfl) rfl (fun K g=>?_)
      go_simp
      obtain⟨vz,k⟩:∃V,(((((o.setCell ⟨a,0,none⟩ (.int .i64 t.wd)).setCell ⟨a,1,none⟩ (.slice J t.ms.length c1)).setCell ⟨a,2,none⟩ (.int .i64 t.d)).setCell ⟨a,3,none⟩ (.slice I t.ts.length c2)).setCell ⟨a,4,none⟩ (.int .i64 t.nx)).setCell ⟨a,5,none⟩ (.slice M ss'.length Z)=V:=⟨_,rfl⟩
      have far:∀b,b≠a->vz.heap[b]? =o.heap[b]? :=fun b hb=>by rw [<-k];exact Zau hb
      have zz:vz.heap.size=o.heap.size:=by rw [<-k];simp [World.setCell]
      have G:w2.heap.size<=a:=by omega
      have Bz:Below w2.heap.size w2 vz:=by rw [<-k];exact ((((((D.setCell (p:=⟨a,0,none⟩) G _).setCell (p:=⟨a,1,none⟩) G _).setCell (p:=⟨a,2,none⟩) G _).setCell (p:=⟨a,3,none⟩) G _).setCell (p:=⟨a,4,none⟩) G _).setCell (p:=⟨a,5,none⟩) G _)
      rw [k] at t6 ⊢
      have j:=a4 vz (by omega) (fun b h1 h2=>far b (by omega))
      refine g.out _ _ Bz (fun _=>?_)
      clear g K k r0 r1 r2 r3 r4 r5 B a8 ac ab a9 aa ad
      refine ZB [10] (by kernel_rfl) (by kernel_rfl) (by kernel_rfl) (by kernel_rfl) Bz ?_
      iterate 1 (refine⟨_,rfl,?_⟩;apply Exists.intro;refine⟨Or.inl ⟨by rfl,fun w' F=>?_⟩,?_⟩;(focus (go_simp<;>with_reducible rfl));simp only [Act.put,tkgZ])
      refine NoPanic.normal (NoPanic.normal ?_)
      try simp only [Exit.then]
      go_wp2_with fail
      go_meet
      exact⟨a,J,c1,I,c2,M,Z,rfl,rfl,t6,j.1,j.2.1,j.2.2,Bz⟩
  · go_simp
    obtain⟨y1,ax⟩:∃w0,y0.alloc (.cells #[.int .i64 0,.slice none 0 0,.int .i64 0,.slice none 0 0,.int .i64 0,.slice none 0 0] 44)=w0:=⟨_,rfl⟩
    have aj:=balZ ax
    obtain⟨a,C⟩:∃q,y0.heap.size=q:=⟨_,rfl⟩
    have T:=nal2Z ax C
    have cF:=altZ ax
    have bh:y0.heap.size<=a/\a<y1.heap.size:=by omega
    first | rw [ax] | skip
    first | rw [C] | skip
    have a6:=Zb aJ aj
    refine g.out _ _ a6 (fun _=>?_)
    clear g K aj ax C
    refine Zc 1 (by kernel_rfl) rfl (fun K g=>?_)
    go_simp
    refine (bE.out y1 a6).mono ?_
    rintro e E ⟨m2,b2,s2,rfl,⟨i2,cz,o2⟩,-,u⟩
    have A:Zo E (some ⟨m2,0,none⟩) ms/\Zp true E (some ⟨b2,0,none⟩) ts/\Zm E (some ⟨s2,0,none⟩) ss:=⟨o2.st.mview,o2.st.wview,Zbt o2.row⟩
    have bD:=u.size
    have Y:=Zb a6 u
    clear o2
    replace T:=(u.block a (by omega)).trans T
    refine g.out _ _ Y (fun _=>?_)
    clear g K u 
    refine Zc 3 (by kernel_rfl) rfl (fun K g=>?_)
    go_simp
    refine (b0.out E Y).mono ?_
    rintro e l ⟨bc,rfl,o3,-,i⟩
    have hU:Zy l (some ⟨bc,0,none⟩) p:=Own.view o3
    have bk:=i.size
    have O:=Zb Y i
    replace A:=(⟨A.1.next i,A.2.1.next i,A.2.2.next i⟩:Zo l (some ⟨m2,0,none⟩) ms/\Zp true l (some ⟨b2,0,none⟩) ts/\Zm l (some ⟨s2,0,none⟩) ss)
    clear o3
    replace T:=(i.block a (by omega)).trans T
    refine g.out _ _ O (fun _=>?_)
    clear g K i 
    refine Zc 4 (by kernel_rfl) rfl (fun K g=>?_)
    go_simp
    refine (HS.out l m2 b2 s2 bc A.1 A.2.1 A.2.2 hU).mono ?_
    rintro e o ⟨x,rfl,⟨J,c1,I,c2,M,Z,rfl,hx⟩,n⟩
    have ba:=n.size
    obtain⟨R,af⟩:∃R,l.heap.size=R:=⟨_,rfl⟩
    obtain⟨Q,ag⟩:∃Q,o.heap.size=Q:=⟨_,rfl⟩
    have bi:o.heap.size<=Q/\Q<=o.heap.size/\l.heap.size<=R/\R<=l.heap.size:=by omega
    have a4:∀f:World,o.heap.size<=f.heap.size->(∀b,R<=b->b<Q->f.heap[b]? =o.heap[b]?)->Zo f J t.ms/\Zp true f I t.ts/\Zm f M ss':=fun f g1 g2=>hx f g1 (fun b x y=>g2 b (by omega) (by omega))
    clear af hx
    clear ag
    have D:=Zb O n
    replace T:=(n.block a (by omega)).trans T
    refine g.out _ _ D (fun _=>?_)
    clear g K n 
    refine Zz 2 [5,6,7] (by kernel_rfl) (by kernel_rfl) (by kernel_rfl) D ?_
    iterate 3 (refine⟨_,rfl,?_⟩;apply Exists.intro;refine⟨Or.inl ⟨by rfl,fun w' F=>?_⟩,?_⟩;(focus (go_simp<;>with_reducible rfl));simp only [Act.put,tkgZ])
    obtain⟨r0,r1,r2,r3,r4,r5,B,b8⟩:=Zh T
    have a8:=B 0
    have ac:=B 1
    have ab:=B 2
    have a9:=B 3
    have aa:=B 4
    have ad:=B 5
    have t6:=Zaf (a':=.int .i64 t.wd) (b':=.slice J t.ms.length c1) (c':=.int .i64 t.d) (d':=.slice I t.ts.length c2) (e':=.int .i64 t.nx) (f':=.slice M ss'.length Z) T
    refine Zc 9 (by kernel_rfl) rfl (fun K g=>?_)
    go_simp
    obtain⟨vz,k⟩:∃V,(((((o.setCell ⟨a,0,none⟩ (.int .i64 t.wd)).setCell ⟨a,1,none⟩ (.slice J t.ms.length c1)).setCell ⟨a,2,none⟩ (.int .i64 t.d)).setCell ⟨a,3,none⟩ (.slice I t.ts.length c2)).setCell ⟨a,4,none⟩ (.int .i64 t.nx)).setCell ⟨a,5,none⟩ (.slice M ss'.length Z)=V:=⟨_,rfl⟩
    have far:∀b,b≠a->vz.heap[b]? =o.heap[b]? :=fun b hb=>by rw [<-k];exact Zau hb
    have zz:vz.heap.size=o.heap.size:=by rw [<-k];simp [World.setCell]
    have G:w2.heap.size<=a:=by omega
    have Bz:Below w2.heap.size w2 vz:=by rw [<-k];exact ((((((D.setCell (p:=⟨a,0,none⟩) G _).setCell (p:=⟨a,1,none⟩) G _).setCell (p:=⟨a,2,none⟩) G _).setCell (p:=⟨a,3,none⟩) G _).setCell (p:=⟨a,4,none⟩) G _).setCell (p:=⟨a,5,none⟩) G _)
    rw [k] at t6 ⊢
    have j:=a4 vz (by omega) (fun b h1 h2=>far b (by omega))
    refine g.out _ _ Bz (fun _=>?_)
    clear g K k r0 r1 r2 r3 r4 r5 B a8 ac ab a9 aa ad
    refine ZB [10] (by kernel_rfl) (by kernel_rfl) (by kernel_rfl) (by kernel_rfl) Bz ?_
    iterate 1 (refine⟨_,rfl,?_⟩;apply Exists.intro;refine⟨Or.inl ⟨by rfl,fun w' F=>?_⟩,?_⟩;(focus (go_simp<;>with_reducible rfl));simp only [Act.put,tkgZ])
    refine NoPanic.normal (NoPanic.normal ?_)
    try simp only [Exit.then]
    go_wp2_with fail
    go_meet
    exact⟨a,J,c1,I,c2,M,Z,rfl,rfl,t6,j.1,j.2.1,j.2.2,Bz⟩
 case rest=>
  obtain⟨P,J,c1,I,c2,M,Z,rfl,rfl,hP,aB,aD,aC,L3⟩:=hcut
  generalize hwc:wc=w3 at *
  clear hwc wc
  have eu:P<w3.heap.size:=(Zh hP).2.2.2.2.2.2.2
  have HP:Hid (∀f,Below w3.heap.size w3 f->f.heap[P]? =some (.cells #[.int .i64 t.wd,.slice J t.ms.length c1,.int .i64 t.d,.slice I t.ts.length c2,.int .i64 t.nx,.slice M ss'.length Z] 44)/\Zo f J t.ms/\Zp true f I t.ts/\Zm f M ss'):=fun f L=>⟨(L.block P eu).trans hP,aB.next L,aD.next L,aC.next L⟩
  have bG:=Za L3
  have aE:=(HA.out w3 L3).1
  have k0:=aE.c0
  have k1:=aE.c1
  have k2:=aE.c2
  have k3:=aE.c3
  have k4:=aE.c4
  have k5:=aE.c5
  have d4:=Za (toDk false am aw aq cm cw cs wd ms d ts nx ss w3 aE.mv aE.wv aE.sv aK.out)
  clear aE hP aB aD aC L3 HI
  go_wp2_with fail
  refine d4.out.mono ?_
  rintro e w4 ⟨m4,b4,s4,rfl,⟨i4,d6,o4⟩,dR,L4⟩
  obtain⟨w5,bx⟩:∃w5,w4.alloc (.cells #[.int .i64 wd,.slice (some ⟨m4,0,none⟩) ms.length ms.length,.int .i64 d,.slice (some ⟨b4,0,none⟩) ts.length ts.length,.int .i64 nx,.slice (some ⟨s4,0,none⟩) ss.length ss.length] 44)=w5:=⟨_,rfl⟩
  have L5:=balZ bx
  have h5:=nalZ bx
  have z5:=salZ bx
  have dG:=ZdS o4.row
  have dJ:m4<=s4:=by have:=o4.st.first;have:=o4.st.last;have:=o4.st.webs.first;have:=o4.st.webs.le_last 0 (Nat.zero_le _);omega
  have dw:=Za (o4.next L5)
  have dz:=Za h5
  have eo:=Za (Zb L4 L5)
  have eG:=Za bx
  have bv:Hid (w5.heap.size=w4.heap.size+1/\w3.heap.size<=w4.heap.size/\w3.heap.size<=m4/\m4<=s4/\s4<w4.heap.size):=⟨z5,L4.size,dR,dJ,dG.2⟩
  have bd:=(HA.out w5 (Zb bG.out (Zb L4 L5))).2
  have f0:=bd.c0
  have f1:=bd.c1
  have f2:=bd.c2
  have f3:=bd.c3
  have f4:=bd.c4
  have dj:=Za (toCm ao ca cl sq kd id p w5 bd.pv aI.out)
  clear o4 dR L4 L5 h5 z5 dG dJ bx bd d4 k0 k1 k2 k3 k4 k5
  go_upto_region 10 with fail
  rw [eG.out]
  go_wp2_with fail
  refine dj.out.mono ?_
  rintro e w6 ⟨b6,rfl,o6,df,L6⟩
  obtain⟨w7,bH⟩:∃w7,w6.alloc (.cells #[.int .i64 cl,.int .i64 sq,.int .i64 kd,.int .i64 id,.slice (some ⟨b6,0,none⟩) p.length p.length] 48)=w7:=⟨_,rfl⟩
  have L7:=balZ bH
  have h7:=nalZ bH
  have z7:=salZ bH
  have ci:Hid (Own w7 b6 p):=Own.below o6 (Own.lt o6) L7
  have ev:=Za h7
  have bZ:Hid (w7.heap.size=w6.heap.size+1/\w5.heap.size<=b6/\b6<w6.heap.size):=⟨z7,df,Own.lt o6⟩
  have bF:=Za (Zb L6 L7)
  have ee:=Za bH
  have hX:=(bF.out.block w4.heap.size (by have:=bv.out.1;omega)).trans dz.out
  obtain⟨p0,p1,p2,p3,p4,p5,-,-⟩:=Zh hX
  obtain⟨q0,q1,q2,q3,q4,-,-⟩:=Zk h7
  have c7:=dw.out.next (Zb L6 L7)
  have dP:=Za (dB.out aK.out aI.out w7 m4 b4 s4 b6 c7.st.mview c7.st.wview (Zbt c7.row) (Own.view ci.out))
  clear o6 df L6 L7 h7 z7 bH hX c7 dj f0 f1 f2 f3 f4
  go_upto_region 11 with fail
  rw [ee.out]
  go_wp2_with fail
  refine dP.out.mono ?_
  rintro e w8 ⟨x,rfl,cq,L8⟩
  obtain⟨g1,d1,g2,d2,g3,d3,rfl,-,-,-,cZ⟩:=DkO.view cq
  obtain⟨w9,bP⟩:∃w9,w8.alloc (.cells #[.int .i64 t.wd,.slice g1 t.ms.length d1,.int .i64 t.d,.slice g2 t.ts.length d2,.int .i64 t.nx,.slice g3 ss'.length d3] 44)=w9:=⟨_,rfl⟩
  have L9:=balZ bP
  have t9:=nalZ bP
  have z9:=salZ bP
  have dQ:Hid (DkP (Btw w7.heap.size w8.heap.size) w9 (.agg #[.int .i64 t.wd,.slice g1 t.ms.length d1,.int .i64 t.d,.slice g2 t.ts.length d2,.int .i64 t.nx,.slice g3 ss'.length d3]) t ss'):=DkP.sm cq (Sta.below L9 (fun q hq=>hq.2))
  have eT:=Za t9
  have bI:Hid (w9.heap.size=w8.heap.size+1/\w7.heap.size<=w8.heap.size):=⟨z9,L8.size⟩
  have dO:Hid (∀f,Sta (Btw w7.heap.size w8.heap.size) w9 f->Zo f g1 t.ms/\Zp true f g2 t.ts/\Zm f g3 ss'):=fun f e2=>cZ f ((Sta.below L9 (fun q hq=>hq.2)).trans e2)
  have dH:=Za (Zb L8 L9)
  have bl:=Za (Zb eo.out (Zb bF.out (Zb L8 L9)))
  have f5:=Za bP
  obtain⟨dI,aB,aD,aC⟩:=HP.out w9 bl.out
  have hg:=dO.out w9 (Sta.refl _ _)
  have dy:=Za (eqDk true true g1 g2 g3 d1 d2 d3 t.wd t.ms t.d t.ts t.nx ss' J I M c1 c2 Z w9 hg.1 hg.2.1 hg.2.2 aB aD aC cj.out)
  obtain⟨u0,u1,u2,u3,u4,u5,-,-⟩:=Zh t9
  obtain⟨v0,v1,v2,v3,v4,v5,-,-⟩:=Zh dI
  clear cq cZ L8 L9 t9 z9 bP dI aB aD aC hg dP
  go_upto_region 12 with fail
  rw [f5.out]
  clear p0 p1 p2 p3 p4 p5 q0 q1 q2 q3 q4
  go_wp2_with fail
  refine dy.out.mono ?_
  rintro e wa ⟨rfl,La⟩
  have bq:=Za La
  have aH:=Za (Zb bG.out (Zb bl.out La))
  have cA:Hid (∀f,Below wa.heap.size wa f->f.heap[w4.heap.size]? =some (.cells #[.int .i64 wd,.slice (some ⟨m4,0,none⟩) ms.length ms.length,.int .i64 d,.slice (some ⟨b4,0,none⟩) ts.length ts.length,.int .i64 nx,.slice (some ⟨s4,0,none⟩) ss.length ss.length] 44)/\f.heap[w6.heap.size]? =some (.cells #[.int .i64 cl,.int .i64 sq,.int .i64 kd,.int .i64 id,.slice (some ⟨b6,0,none⟩) p.length p.length] 48)):=fun f L=>by
   have L':=Zb dH.out (Zb bq.out L)
   have z:=bZ.out.1
   have z5:=bv.out.1
   exact⟨(L'.block _ (by have:=bF.out.size;omega)).trans ((bF.out.block _ (by omega)).trans dz.out),(L'.block _ (by omega)).trans ev.out⟩
  have ct:Hid (∀f,Below wa.heap.size wa f->Zfe f m4 i4 b4 d6 s4 ms ts ss/\Own f b6 p):=fun f L=>by
   have L':=Zb dH.out (Zb bq.out L)
   exact⟨(dw.out.next bF.out).next L',Own.below ci.out (Own.lt ci.out) L'⟩
  have cO:=Za (fun (U:World) (L:Below wa.heap.size wa U)=>toDk false am aw aq cm cw cs wd ms d ts nx ss U (HA.out U (Zb aH.out L)).1.mv (HA.out U (Zb aH.out L)).1.wv (HA.out U (Zb aH.out L)).1.sv aK.out)
  have d9:=Za (fun (U:World) (L:Below wa.heap.size wa U)=>toCm ao ca cl sq kd id p U (HA.out U (Zb aH.out L)).2.pv aI.out)
  have bT:=Za (Below.drew (Below.refl wa.heap.size wa))
  clear La u0 u1 u2 u3 u4 u5 v0 v1 v2 v3 v4 v5 dy
  go_upto_region 14 with fail
  refine Zl (S:=fun f=>Below wa.heap.size wa f) (fuel:=3) [0,1] (by kernel_rfl) (by kernel_rfl) (by kernel_rfl) (by kernel_rfl) bT.out (fun _=>?_)
  iterate 2 (refine⟨_,rfl,?_⟩;apply Exists.intro;refine⟨Or.inl ⟨by rfl,fun w' F=>?_⟩,?_⟩;(focus (obtain⟨hx,-⟩:=cA.out w' F;have hd:=(HA.out w' (Zb aH.out F)).1;have e0:=hd.c0;have e1:=hd.c1;have e2:=hd.c2;have e3:=hd.c3;have e4:=hd.c4;have e5:=hd.c5;obtain⟨x0,x1,x2,x3,x4,x5,-,-⟩:=Zh hx;go_simp<;>with_reducible rfl));simp only [Act.put,tkgZ])
  refine Zc 2 (by kernel_rfl) rfl (fun K g=>?_)
  go_simp
  refine (cO.out _ bT.out).mono ?_
  rintro e wb ⟨mb,bb,sb,rfl,⟨ib,fr,ob⟩,-,Lb⟩
  have aM:=Za (Zb bT.out Lb)
  have bV:=(ct.out wb aM.out).1
  have bt:=Za (eqDk true true (some ⟨m4,0,none⟩) (some ⟨b4,0,none⟩) (some ⟨s4,0,none⟩) ms.length ts.length ss.length wd ms d ts nx ss (some ⟨mb,0,none⟩) (some ⟨bb,0,none⟩) (some ⟨sb,0,none⟩) ms.length ts.length ss.length wb bV.st.mview bV.st.wview (Zbt bV.row) ob.st.mview ob.st.wview (Zbt ob.row) aK.out)
  clear ob Lb bV
  refine g.out _ _ aM.out (fun _=>?_)
  clear g K
  refine Zc 3 (by kernel_rfl) rfl (fun K g=>?_)
  go_simp
  refine bt.out.mono ?_
  rintro e wc ⟨rfl,Lc⟩
  have bY:=Za (Zb aM.out Lc)
  clear Lc
  refine g.out _ _ bY.out (fun _=>?_)
  clear g K
  refine ZB [4] rfl (by kernel_rfl) (by kernel_rfl) (by kernel_rfl) bY.out ?_
  iterate 1 (refine⟨_,rfl,?_⟩;apply Exists.intro;refine⟨Or.inl ⟨by rfl,fun w' F=>?_⟩,?_⟩;(focus (go_simp<;>with_reducible rfl));simp only [Act.put,tkgZ])
  refine NoPanic.normal (NoPanic.normal ?_)
  have bX:=Za (show Below wa.heap.size wa wc.drew from Below.drew bY.out)
  clear aM bt
  go_upto_region 16 with fail
  refine Zl (S:=fun f=>Below wa.heap.size wa f) (fuel:=3) [0,1] (by kernel_rfl) (by kernel_rfl) (by kernel_rfl) (by kernel_rfl) bX.out (fun _=>?_)
  iterate 2 (refine⟨_,rfl,?_⟩;apply Exists.intro;refine⟨Or.inl ⟨by rfl,fun w' F=>?_⟩,?_⟩;(focus (obtain⟨-,hx⟩:=cA.out w' F;have hd:=(HA.out w' (Zb aH.out F)).2;have e0:=hd.c0;have e1:=hd.c1;have e2:=hd.c2;have e3:=hd.c3;have e4:=hd.c4;obtain⟨x0,x1,x2,x3,x4,-,-⟩:=Zk hx;go_simp<;>with_reducible rfl));simp only [Act.put,tkgZ])
  refine Zc 2 (by kernel_rfl) rfl (fun K g=>?_)
  go_simp
  refine (d9.out _ bX.out).mono ?_
  rintro e cT ⟨bb,rfl,ob,-,Lb⟩
  have aM:=Za (Zb bX.out Lb)
  have bt:=Za (eqCm (some ⟨b6,0,none⟩) (some ⟨bb,0,none⟩) p.length p.length cl sq kd id p cT (Own.view (ct.out cT aM.out).2) (Own.view ob) aI.out)
  clear ob Lb
  refine g.out _ _ aM.out (fun _=>?_)
  clear g K
  refine Zc 3 (by kernel_rfl) rfl (fun K g=>?_)
  go_simp
  refine bt.out.mono ?_
  rintro e bC ⟨rfl,Ld⟩
  have aT:=Za (Zb aM.out Ld)
  clear Ld
  refine g.out _ _ aT.out (fun _=>?_)
  clear g K
  refine ZB [4] rfl (by kernel_rfl) (by kernel_rfl) (by kernel_rfl) aT.out ?_
  iterate 1 (refine⟨_,rfl,?_⟩;apply Exists.intro;refine⟨Or.inl ⟨by rfl,fun w' F=>?_⟩,?_⟩;(focus (go_simp<;>with_reducible rfl));simp only [Act.put,tkgZ])
  refine NoPanic.normal (NoPanic.normal ?_)
  obtain⟨da,cP⟩:=cA.out bC aT.out
  obtain⟨dx,dE⟩:=ct.out bC aT.out
  obtain⟨p0,p1,p2,p3,p4,p5,-,-⟩:=Zh da
  have cM:=Za (Znw m4 i4 b4 s4 wd ms d ts nx ss d6 bC dx aK.out)
  have fa:=Za cP
  have ep:=Za dE
  clear da cP dx dE aM bt cO d9 bT bX bY
  go_wp2_with fail
  refine cM.out.mono ?_
  rintro e we ⟨⟨kx,dv,dn,rfl⟩,gd⟩
  have bA:=bv.out
  have bM:=bZ.out
  have aL:=bI.out
  have co:=aT.out.size
  have cy:=bq.out.size
  have dp:=(gd.2.2.2.2 w6.heap.size (by omega) (Or.inr (by omega))).trans fa.out
  have du:Own we b6 p:=(gd.2.2.2.2 b6 (by omega) (Or.inr (by omega))).trans ep.out
  obtain⟨q0,q1,q2,q3,q4,-,-⟩:=Zk dp
  have cQ:=Za (Znx b6 cl sq kd id kx p we du aI.out dv dn)
  have eH:=Za gd
  clear gd dp du bA bM aL co cy p0 p1 p2 p3 p4 p5 cM
  go_wp2_with fail
  refine cQ.out.mono ?_
  rintro e wf ⟨⟨ky,eX,rfl⟩,ge⟩
  have bA:=bv.out
  have bM:=bZ.out
  have aL:=bI.out
  have co:=aT.out.size
  have cy:=bq.out.size
  have f6:=bl.out.size
  have gd:=eH.out
  have aO:∀q,q<bC.heap.size->¬(m4<=q/\q<=s4)->q≠b6->wf.heap[q]? =bC.heap[q]? :=fun q h1 h2 h3=>(ge.2.2.2.2 q (by have:=gd.2.2.2.1;omega) (by omega)).trans (gd.2.2.2.2 q h1 (by omega))
  have bN:Hid (Below w3.heap.size w3 wf):=by
   have L:=Zb bl.out (Zb bq.out aT.out)
   exact⟨ge.1.trans (gd.1.trans L.os),ge.2.1.trans (gd.2.1.trans L.tape),ge.2.2.1.trans (gd.2.2.1.trans L.output),by have:=ge.2.2.2.1;have:=gd.2.2.2.1;have:=L.size;omega,fun q hq=>(aO q (by have:=L.size;omega) (by omega) (by omega)).trans (L.block q hq)⟩
  have bB:Hid (wf.heap[w8.heap.size]? =some (.cells #[.int .i64 t.wd,.slice g1 t.ms.length d1,.int .i64 t.d,.slice g2 t.ts.length d2,.int .i64 t.nx,.slice g3 ss'.length d3] 44)/\Sta (Btw w7.heap.size w8.heap.size) w9 wf):=by
   have L:=Zb bq.out aT.out
   exact⟨(aO _ (by omega) (by omega) (by omega)).trans ((L.block _ (by omega)).trans eT.out),by have:=ge.2.2.2.1;have:=gd.2.2.2.1;omega,fun q hq=>(aO q (by have:=hq.2;omega) (by have:=hq.1;omega) (by have:=hq.1;omega)).trans (L.block q (by have:=hq.2;omega))⟩
  obtain⟨dA,aB,aD,aC⟩:=HP.out wf bN.out
  have hg:=dO.out wf bB.out.2
  have di:=Za (eqDk true true g1 g2 g3 d1 d2 d3 t.wd t.ms t.d t.ts t.nx ss' J I M c1 c2 Z wf hg.1 hg.2.1 hg.2.2 aB aD aC cj.out)
  have eA:¬ky<0:=by omega
  obtain⟨u0,u1,u2,u3,u4,u5,-,-⟩:=Zh bB.out.1
  obtain⟨v0,v1,v2,v3,v4,v5,-,-⟩:=Zh dA
  clear ge gd aO dA aB aD aC hg bA bM aL co cy f6 q0 q1 q2 q3 q4 cQ dv dn eX
  go_wp2_with fail
  refine di.out.mono ?_
  rintro e wg ⟨rfl,Lg⟩
  have cf:=Za (bN.out.trans (Below.mono Lg bN.out.size))
  have eU:=bB.out.2.1
  have aL:=bI.out
  have bW:Hid (wg.heap[w8.heap.size]? =some (.cells #[.int .i64 t.wd,.slice g1 t.ms.length d1,.int .i64 t.d,.slice g2 t.ts.length d2,.int .i64 t.nx,.slice g3 ss'.length d3] 44)/\Sta (Btw w7.heap.size w8.heap.size) w9 wg):=⟨(Lg.block _ (by omega)).trans bB.out.1,bB.out.2.trans (Sta.below Lg (fun q hq=>by have:=hq.2;omega))⟩
  obtain⟨N,hN,dD⟩:=DkO.ow dQ.out rfl
  have cS:=Za (dD.act wg bW.out.2 1 (by omega) (by omega))
  clear u0 u1 u2 u3 u4 u5 v0 v1 v2 v3 v4 v5
  obtain⟨u0,u1,u2,u3,u4,u5,-,-⟩:=Zh bW.out.1
  clear Lg eU aL dD di
  go_wp2_with fail
  refine cS.out.mono ?_
  rintro e wh ⟨rfl,c6,cu⟩
  have aL:=bI.out
  have bM:=bZ.out
  have bA:=bv.out
  have et:=bW.out.2.1
  have dq:Hid (wh.heap[w8.heap.size]? =some (.cells #[.int .i64 t.wd,.slice g1 t.ms.length d1,.int .i64 t.d,.slice g2 t.ts.length d2,.int .i64 t.nx,.slice g3 ss'.length d3] 44)):=(c6.2.2.2.2 _ (by omega) (fun hq=>by have:=hq.2;omega)).trans bW.out.1
  have cb:Hid (Below w3.heap.size w3 wh):=cf.out.trans (c6.below cf.out.size (fun q hq=>by have:=hq.1;omega))
  have fb:=Za cu
  have f7:Hid (w9.heap.size<=wh.heap.size):=by show _<=_;have:=c6.2.2.2.1;omega
  have dc:=Za (cu wh (Sta.refl _ _))
  clear u0 u1 u2 u3 u4 u5
  obtain⟨u0,u1,u2,u3,u4,u5,-,-⟩:=Zh dq.out
  clear c6 cu aL bM bA et cS eA
  go_wp2_with fail
  refine dc.out.mono ?_
  rintro e wi ⟨rfl,Li⟩
  have bL:=Za (cb.out.trans (Below.mono Li cb.out.size))
  have eL:=Za Li
  have aX:Hid (Below w2.heap.size w2 wi):=Zb bG.out bL.out
  have fE:¬((1:Int)+(N:Int)<0):=by omega
  have fF:((1:Int)+(N:Int) !=1+(N:Int))=false:=by simp
  have HI:=Za (fun (W:World) (m b s c:Nat) h1 h2 h3 h4=>(dB.out aK.out aI.out W m b s c h1 h2 h3 h4))
  have bK:Hid (∀(W:World) (m b s c:Nat),Zo W (some ⟨m,0,none⟩) ms->Zp true W (some ⟨b,0,none⟩) ts->Zm W (some ⟨s,0,none⟩) ss->Zy W (some ⟨c,0,none⟩) p->Calls Tryz.prog 12 #[.agg #[.int .i64 wd,.slice (some ⟨m,0,none⟩) ms.length ms.length,.int .i64 d,.slice (some ⟨b,0,none⟩) ts.length ts.length,.int .i64 nx,.slice (some ⟨s,0,none⟩) ss.length ss.length],.agg #[.int .i64 cl,.int .i64 sq,.int .i64 kd,.int .i64 id,.slice (some ⟨c,0,none⟩) p.length p.length]] W fun e w'=>∃x,e=.returned (.tuple #[x,.int .i64 r])/\ZlB W.heap.size w' x t ss'/\Below W.heap.size W w'):=fun W m b s c h1 h2 h3 h4=>(HI.out W m b s c h1 h2 h3 h4).mono (fun e w' ⟨x,h5,h6,h7⟩=>⟨x,h5,DkP.vp h6,h7⟩)
  clear Li dc u0 u1 u2 u3 u4 u5
  go_upto_region 31 with fail
  go_cut [15,16] from 94 to 101 (fun v b wx=>∃X J c1 I c2 M Z,v=.pointer (some ⟨X,0,none⟩)/\b=.int .i64 r/\wx.heap[X]? =some (.cells #[.int .i64 t.wd,.slice J t.ms.length c1,.int .i64 t.d,.slice I t.ts.length c2,.int .i64 t.nx,.slice M ss'.length Z] 44)/\Zo wx J t.ms/\Zp true wx I t.ts/\Zm wx M ss'/\Below wi.heap.size wi wx)
  case first=>
   have bs:=Za (Below.drew (Below.refl wi.heap.size wi))
   have bE:=Za (fun (U:World) (L:Below wi.heap.size wi U)=>toDk false am aw aq cm cw cs wd ms d ts nx ss U (HA.out U (Zb aX.out L)).1.mv (HA.out U (Zb aX.out L)).1.wv (HA.out U (Zb aX.out L)).1.sv aK.out)
   have b0:=Za (fun (U:World) (L:Below wi.heap.size wi U)=>toCm ao ca cl sq kd id p U (HA.out U (Zb aX.out L)).2.pv aI.out)
   refine Zl (S:=fun f=>Below wi.heap.size wi f) (fuel:=9) [0,2] (by kernel_rfl) (by kernel_rfl) (by kernel_rfl) (by kernel_rfl) bs.out (fun _=>?_)
   iterate 2 (refine⟨_,rfl,?_⟩;apply Exists.intro;refine⟨Or.inl ⟨by rfl,fun w' F=>?_⟩,?_⟩;(focus (obtain⟨hd,hc⟩:=HA.out w' (Zb aX.out F);have e0:=hd.c0;have e1:=hd.c1;have e2:=hd.c2;have e3:=hd.c3;have e4:=hd.c4;have e5:=hd.c5;have f0:=hc.c0;have f1:=hc.c1;have f2:=hc.c2;have f3:=hc.c3;have f4:=hc.c4;go_simp<;>with_reducible rfl));simp only [Act.put,tkgZ])
   obtain⟨y0,b5⟩:∃w0,wi.drew=w0:=⟨_,rfl⟩
   have aJ:Below wi.heap.size wi y0:=by rw [<-b5];exact bs.out
   have ek:wi.heap.size<=y0.heap.size:=aJ.size
   rw [b5]
   clear b5
   refine ZA 1 8 (by kernel_rfl) rfl rfl (fun K g=>?_) (fun K g=>?_)
   · go_simp
     refine (bE.out y0 aJ).mono ?_
     rintro e y1 ⟨m2,b2,s2,rfl,⟨i2,cz,o2⟩,-,aj⟩
     have A:Zo y1 (some ⟨m2,0,none⟩) ms/\Zp true y1 (some ⟨b2,0,none⟩) ts/\Zm y1 (some ⟨s2,0,none⟩) ss:=⟨o2.st.mview,o2.st.wview,Zbt o2.row⟩
     have cF:=aj.size
     have a6:=Zb aJ aj
     clear o2
     refine g.out _ _ a6 (fun _=>?_)
     clear g K aj 
     refine ZA 3 8 (by kernel_rfl) rfl rfl (fun K g=>?_) (fun K g=>?_)
     · go_simp
       refine (b0.out y1 a6).mono ?_
       rintro e E ⟨bc,rfl,o3,-,u⟩
       have hU:Zy E (some ⟨bc,0,none⟩) p:=Own.view o3
       have bD:=u.size
       have Y:=Zb a6 u
       replace A:=(⟨A.1.next u,A.2.1.next u,A.2.2.next u⟩:Zo E (some ⟨m2,0,none⟩) ms/\Zp true E (some ⟨b2,0,none⟩) ts/\Zm E (some ⟨s2,0,none⟩) ss)
       clear o3
       refine g.out _ _ Y (fun _=>?_)
       clear g K u 
       refine ZA 4 8 (by kernel_rfl) rfl rfl (fun K g=>?_) (fun K g=>?_)
       · go_simp
         refine (bK.out E m2 b2 s2 bc A.1 A.2.1 A.2.2 hU).mono ?_
         rintro e l ⟨x,rfl,⟨J,c1,I,c2,M,Z,rfl,hx⟩,i⟩
         have bk:=i.size
         obtain⟨R,af⟩:∃R,E.heap.size=R:=⟨_,rfl⟩
         obtain⟨Q,ag⟩:∃Q,l.heap.size=Q:=⟨_,rfl⟩
         have bi:l.heap.size<=Q/\Q<=l.heap.size/\E.heap.size<=R/\R<=E.heap.size:=by omega
         have a4:∀f:World,l.heap.size<=f.heap.size->(∀b,R<=b->b<Q->f.heap[b]? =l.heap[b]?)->Zo f J t.ms/\Zp true f I t.ts/\Zm f M ss':=fun f g1 g2=>hx f g1 (fun b x y=>g2 b (by omega) (by omega))
         clear af hx
         clear ag
         have O:=Zb Y i
         refine g.out _ _ O (fun _=>?_)
         clear g K i 
         refine Zz 3 [5,6,7] (by kernel_rfl) (by kernel_rfl) (by kernel_rfl) O ?_
         iterate 3 (refine⟨_,rfl,?_⟩;apply Exists.intro;refine⟨Or.inl ⟨by rfl,fun w' F=>?_⟩,?_⟩;(focus (go_simp<;>with_reducible rfl));simp only [Act.put,tkgZ])
         refine Zc 8 (by kernel_rfl) rfl (fun K g=>?_)
         go_simp
         generalize au:World.alloc _ _=o
         have n:=balZ au
         obtain⟨a,C⟩:∃q,l.heap.size=q:=⟨_,rfl⟩
         have T:=nal2Z au C
         have ba:=altZ au
         have bh:l.heap.size<=a/\a<o.heap.size:=by omega
         first | rw [au] | skip
         first | rw [C] | skip
         have D:=Zb O n
         replace a4:∀f:World,o.heap.size<=f.heap.size->(∀b,R<=b->b<Q->f.heap[b]? =o.heap[b]?)->Zo f J t.ms/\Zp true f I t.ts/\Zm f M ss':=fun f g1 g2=>a4 f (by omega) (fun b x y=>(g2 b x y).trans (n.block b (by omega)))
         refine g.out _ _ D (fun _=>?_)
         clear g K n au C
         obtain⟨r0,r1,r2,r3,r4,r5,B,b8⟩:=Zh T
         have a8:=B 0
         have ac:=B 1
         have ab:=B 2
         have a9:=B 3
         have aa:=B 4
         have ad:=B 5
         have t6:=Zaf (a':=.int .i64 t.wd) (b':=.slice J t.ms.length c1) (c':=.int .i64 t.d) (d':=.slice I t.ts.length c2) (e':=.int .i64 t.nx) (f':=.slice M ss'.length Z) T
         refine Zc 9 (by kernel_rfl) rfl (fun K g=>?_)
         go_simp
         obtain⟨vz,k⟩:∃V,(((((o.setCell ⟨a,0,none⟩ (.int .i64 t.wd)).setCell ⟨a,1,none⟩ (.slice J t.ms.length c1)).setCell ⟨a,2,none⟩ (.int .i64 t.d)).setCell ⟨a,3,none⟩ (.slice I t.ts.length c2)).setCell ⟨a,4,none⟩ (.int .i64 t.nx)).setCell ⟨a,5,none⟩ (.slice M ss'.length Z)=V:=⟨_,rfl⟩
         have far:∀b,b≠a->vz.heap[b]? =o.heap[b]? :=fun b hb=>by rw [<-k];exact Zau hb
         have zz:vz.heap.size=o.heap.size:=by rw [<-k];simp [World.setCell]
         have G:wi.heap.size<=a:=by omega
         have Bz:Below wi.heap.size wi vz:=by rw [<-k];exact ((((((D.setCell (p:=⟨a,0,none⟩) G _).setCell (p:=⟨a,1,none⟩) G _).setCell (p:=⟨a,2,none⟩) G _).setCell (p:=⟨a,3,none⟩) G _).setCell (p:=⟨a,4,none⟩) G _).setCell (p:=⟨a,5,none⟩) G _)
         rw [k] at t6 ⊢
         have j:=a4 vz (by omega) (fun b h1 h2=>far b (by omega))
         refine g.out _ _ Bz (fun _=>?_)
         clear g K k r0 r1 r2 r3 r4 r5 B a8 ac ab a9 aa ad
         refine ZB [10] (by kernel_rfl) (by kernel_rfl) (by kernel_rfl) (by kernel_rfl) Bz ?_
         iterate 1 (refine⟨_,rfl,?_⟩;apply Exists.intro;refine⟨Or.inl ⟨by rfl,fun w' F=>?_⟩,?_⟩;(focus (go_simp<;>with_reducible rfl));simp only [Act.put,tkgZ])
         refine NoPanic.normal (NoPanic.normal ?_)
         try simp only [Exit.then]
         go_wp2_with fail
         go_meet
         exact⟨a,J,c1,I,c2,M,Z,rfl,rfl,t6,j.1,j.2.1,j.2.2,Bz⟩
       · go_simp
         obtain⟨l,az⟩:∃w0,E.alloc (.cells #[.int .i64 0,.slice none 0 0,.int .i64 0,.slice none 0 0,.int .i64 0,.slice none 0 0] 44)=w0:=⟨_,rfl⟩
         have i:=balZ az
         obtain⟨a,C⟩:∃q,E.heap.size=q:=⟨_,rfl⟩
         have T:=nal2Z az C
         have bk:=altZ az
         have bh:E.heap.size<=a/\a<l.heap.size:=by omega
         first | rw [az] | skip
         first | rw [C] | skip
         have O:=Zb Y i
         replace A:=(⟨A.1.next i,A.2.1.next i,A.2.2.next i⟩:Zo l (some ⟨m2,0,none⟩) ms/\Zp true l (some ⟨b2,0,none⟩) ts/\Zm l (some ⟨s2,0,none⟩) ss)
         replace hU:Zy l (some ⟨bc,0,none⟩) p:=hU.next i
         refine g.out _ _ O (fun _=>?_)
         clear g K i az C
         refine Zc 4 (by kernel_rfl) rfl (fun K g=>?_)
         go_simp
         refine (bK.out l m2 b2 s2 bc A.1 A.2.1 A.2.2 hU).mono ?_
         rintro e o ⟨x,rfl,⟨J,c1,I,c2,M,Z,rfl,hx⟩,n⟩
         have ba:=n.size
         obtain⟨R,af⟩:∃R,l.heap.size=R:=⟨_,rfl⟩
         obtain⟨Q,ag⟩:∃Q,o.heap.size=Q:=⟨_,rfl⟩
         have bi:o.heap.size<=Q/\Q<=o.heap.size/\l.heap.size<=R/\R<=l.heap.size:=by omega
         have a4:∀f:World,o.heap.size<=f.heap.size->(∀b,R<=b->b<Q->f.heap[b]? =o.heap[b]?)->Zo f J t.ms/\Zp true f I t.ts/\Zm f M ss':=fun f g1 g2=>hx f g1 (fun b x y=>g2 b (by omega) (by omega))
         clear af hx
         clear ag
         have D:=Zb O n
         replace T:=(n.block a (by omega)).trans T
         refine g.out _ _ D (fun _=>?_)
         clear g K n 
         refine Zz 2 [5,6,7] (by kernel_rfl) (by kernel_rfl) (by kernel_rfl) D ?_
         iterate 3 (refine⟨_,rfl,?_⟩;apply Exists.intro;refine⟨Or.inl ⟨by rfl,fun w' F=>?_⟩,?_⟩;(focus (go_simp<;>with_reducible rfl));simp only [Act.put,tkgZ])
         obtain⟨r0,r1,r2,r3,r4,r5,B,b8⟩:=Zh T
         have a8:=B 0
         have ac:=B 1
         have ab:=B 2
         have a9:=B 3
         have aa:=B 4
         have ad:=B 5
         have t6:=Zaf (a':=.int .i64 t.wd) (b':=.slice J t.ms.length c1) (c':=.int .i64 t.d) (d':=.slice I t.ts.length c2) (e':=.int .i64 t.nx) (f':=.slice M ss'.length Z) T
         refine Zc 9 (by kernel_rfl) rfl (fun K g=>?_)
         go_simp
         obtain⟨vz,k⟩:∃V,(((((o.setCell ⟨a,0,none⟩ (.int .i64 t.wd)).setCell ⟨a,1,none⟩ (.slice J t.ms.length c1)).setCell ⟨a,2,none⟩ (.int .i64 t.d)).setCell ⟨a,3,none⟩ (.slice I t.ts.length c2)).setCell ⟨a,4,none⟩ (.int .i64 t.nx)).setCell ⟨a,5,none⟩ (.slice M ss'.length Z)=V:=⟨_,rfl⟩
         have far:∀b,b≠a->vz.heap[b]? =o.heap[b]? :=fun b hb=>by rw [<-k];exact Zau hb
         have zz:vz.heap.size=o.heap.size:=by rw [<-k];simp [World.setCell]
         have G:wi.heap.size<=a:=by omega
         have Bz:Below wi.heap.size wi vz:=by rw [<-k];exact ((((((D.setCell (p:=⟨a,0,none⟩) G _).setCell (p:=⟨a,1,none⟩) G _).setCell (p:=⟨a,2,none⟩) G _).setCell (p:=⟨a,3,none⟩) G _).setCell (p:=⟨a,4,none⟩) G _).setCell (p:=⟨a,5,none⟩) G _)
         rw [k] at t6 ⊢
         have j:=a4 vz (by omega) (fun b h1 h2=>far b (by omega))
         refine g.out _ _ Bz (fun _=>?_)
         clear g K k r0 r1 r2 r3 r4 r5 B a8 ac ab a9 aa ad
         refine ZB [10] (by kernel_rfl) (by kernel_rfl) (by kernel_rfl) (by kernel_rfl) Bz ?_
         iterate 1 (refine⟨_,rfl,?_⟩;apply Exists.intro;refine⟨Or.inl ⟨by rfl,fun w' F=>?_⟩,?_⟩;(focus (go_simp<;>with_reducible rfl));simp only [Act.put,tkgZ])
         refine NoPanic.normal (NoPanic.normal ?_)
         try simp only [Exit.then]
         go_wp2_with fail
         go_meet
         exact⟨a,J,c1,I,c2,M,Z,rfl,rfl,t6,j.1,j.2.1,j.2.2,Bz⟩
     · go_simp
       obtain⟨E,ay⟩:∃w0,y1.alloc (.cells #[.int .i64 0,.slice none 0 0,.int .i64 0,.slice none 0 0,.int .i64 0,.slice none 0 0] 44)=w0:=⟨_,rfl⟩
       have u:=balZ ay
       obtain⟨a,C⟩:∃q,y1.heap.size=q:=⟨_,rfl⟩
       have T:=nal2Z ay C
       have bD:=altZ ay
       have bh:y1.heap.size<=a/\a<E.heap.size:=by omega
       first | rw [ay] | skip
       first | rw [C] | skip
       have Y:=Zb a6 u
       replace A:=(⟨A.1.next u,A.2.1.next u,A.2.2.next u⟩:Zo E (some ⟨m2,0,none⟩) ms/\Zp true E (some ⟨b2,0,none⟩) ts/\Zm E (some ⟨s2,0,none⟩) ss)
       refine g.out _ _ Y (fun _=>?_)
       clear g K u ay C
       refine Zc 3 (by kernel_rfl) rfl (fun K g=>?_)
       go_simp
       refine (b0.out E Y).mono ?_
       rintro e l ⟨bc,rfl,o3,-,i⟩
       have hU:Zy l (some ⟨bc,0,none⟩) p:=Own.view o3
       have bk:=i.size
       have O:=Zb Y i
       replace A:=(⟨A.1.next i,A.2.1.next i,A.2.2.next i⟩:Zo l (some ⟨m2,0,none⟩) ms/\Zp true l (some ⟨b2,0,none⟩) ts/\Zm l (some ⟨s2,0,none⟩) ss)
       clear o3
       replace T:=(i.block a (by omega)).trans T
       refine g.out _ _ O (fun _=>?_)
       clear g K i 
       refine Zc 4 (by kernel_rfl) rfl (fun K g=>?_)
       go_simp
       refine (bK.out l m2 b2 s2 bc A.1 A.2.1 A.2.2 hU).mono ?_
       rintro e o ⟨x,rfl,⟨J,c1,I,c2,M,Z,rfl,hx⟩,n⟩
       have ba:=n.size
       obtain⟨R,af⟩:∃R,l.heap.size=R:=⟨_,rfl⟩
       obtain⟨Q,ag⟩:∃Q,o.heap.size=Q:=⟨_,rfl⟩
       have bi:o.heap.size<=Q/\Q<=o.heap.size/\l.heap.size<=R/\R<=l.heap.size:=by omega
       have a4:∀f:World,o.heap.size<=f.heap.size->(∀b,R<=b->b<Q->f.heap[b]? =o.heap[b]?)->Zo f J t.ms/\Zp true f I t.ts/\Zm f M ss':=fun f g1 g2=>hx f g1 (fun b x y=>g2 b (by omega) (by omega))
       clear af hx
       clear ag
       have D:=Zb O n
       replace T:=(n.block a (by omega)).trans T
       refine g.out _ _ D (fun _=>?_)
       clear g K n 
       refine Zz 2 [5,6,7] (by kernel_rfl) (by kernel_rfl) (by kernel_rfl) D ?_
       iterate 3 (refine⟨_,rfl,?_⟩;apply Exists.intro;refine⟨Or.inl ⟨by rfl,fun w' F=>?_⟩,?_⟩;(focus (go_simp<;>with_reducible rfl));simp only [Act.put,tkgZ])
       obtain⟨r0,r1,r2,r3,r4,r5,B,b8⟩:=Zh T
       have a8:=B 0
       have ac:=B 1
       have ab:=B 2
       have a9:=B 3
       have aa:=B 4
       have ad:=B 5
       have t6:=Zaf (a':=.int .i64 t.wd) (b':=.slice J t.ms.length c1) (c':=.int .i64 t.d) (d':=.slice I t.ts.length c2) (e':=.int .i64 t.nx) (f':=.slice M ss'.length Z) T
       refine Zc 9 (by kernel_rfl) rfl (fun K g=>?_)
       go_simp
       obtain⟨vz,k⟩:∃V,(((((o.setCell ⟨a,0,none⟩ (.int .i64 t.wd)).setCell ⟨a,1,none⟩ (.slice J t.ms.length c1)).setCell ⟨a,2,none⟩ (.int .i64 t.d)).setCell ⟨a,3,none⟩ (.slice I t.ts.length c2)).setCell ⟨a,4,none⟩ (.int .i64 t.nx)).setCell ⟨a,5,none⟩ (.slice M ss'.length Z)=V:=⟨_,rfl⟩
       have far:∀b,b≠a->vz.heap[b]? =o.heap[b]? :=fun b hb=>by rw [<-k];exact Zau hb
       have zz:vz.heap.size=o.heap.size:=by rw [<-k];simp [World.setCell]
       have G:wi.heap.size<=a:=by omega
       have Bz:Below wi.heap.size wi vz:=by rw [<-k];exact ((((((D.setCell (p:=⟨a,0,none⟩) G _).setCell (p:=⟨a,1,none⟩) G _).setCell (p:=⟨a,2,none⟩) G _).setCell (p:=⟨a,3,none⟩) G _).setCell (p:=⟨a,4,none⟩) G _).setCell (p:=⟨a,5,none⟩) G _)
       rw [k] at t6 ⊢
       have j:=a4 vz (by omega) (fun b h1 h2=>far b (by omega))
       refine g.out _ _ Bz (fun _=>?_)
       clear g K k r0 r1 r2 r3 r4 r5 B a8 ac ab a9 aa ad
       refine ZB [10] (by kernel_rfl) (by kernel_rfl) (by kernel_rfl) (by kernel_rfl) Bz ?_
       iterate 1 (refine⟨_,rfl,?_⟩;apply Exists.intro;refine⟨Or.inl ⟨by rfl,fun w' F=>?_⟩,?_⟩;(focus (go_simp<;>with_reducible rfl));simp only [Act.put,tkgZ])
       refine NoPanic.normal (NoPanic.normal ?_)
       try simp only [Exit.then]
       go_wp2_with fail
       go_meet
       exact⟨a,J,c1,I,c2,M,Z,rfl,rfl,t6,j.1,j.2.1,j.2.2,Bz⟩
   · go_simp
     obtain⟨y1,ax⟩:∃w0,y0.alloc (.cells #[.int .i64 0,.slice none 0 0,.int .i64 0,.slice none 0 0,.int .i64 0,.slice none 0 0] 44)=w0:=⟨_,rfl⟩
     have aj:=balZ ax
     obtain⟨a,C⟩:∃q,y0.heap.size=q:=⟨_,rfl⟩
     have T:=nal2Z ax C
     have cF:=altZ ax
     have bh:y0.heap.size<=a/\a<y1.heap.size:=by omega
     first | rw [ax] | skip
     first | rw [C] | skip
     have a6:=Zb aJ aj
     refine g.out _ _ a6 (fun _=>?_)
     clear g K aj ax C
     refine Zc 1 (by kernel_rfl) rfl (fun K g=>?_)
     go_simp
     refine (bE.out y1 a6).mono ?_
     rintro e E ⟨m2,b2,s2,rfl,⟨i2,cz,o2⟩,-,u⟩
     have A:Zo E (some ⟨m2,0,none⟩) ms/\Zp true E (some ⟨b2,0,none⟩) ts/\Zm E (some ⟨s2,0,none⟩) ss:=⟨o2.st.mview,o2.st.wview,Zbt o2.row⟩
     have bD:=u.size
     have Y:=Zb a6 u
     clear o2
     replace T:=(u.block a (by omega)).trans T
     refine g.out _ _ Y (fun _=>?_)
     clear g K u 
     refine Zc 3 (by kernel_rfl) rfl (fun K g=>?_)
     go_simp
     refine (b0.out E Y).mono ?_
     rintro e l ⟨bc,rfl,o3,-,i⟩
     have hU:Zy l (some ⟨bc,0,none⟩) p:=Own.view o3
     have bk:=i.size
     have O:=Zb Y i
     replace A:=(⟨A.1.next i,A.2.1.next i,A.2.2.next i⟩:Zo l (some ⟨m2,0,none⟩) ms/\Zp true l (some ⟨b2,0,none⟩) ts/\Zm l (some ⟨s2,0,none⟩) ss)
     clear o3
     replace T:=(i.block a (by omega)).trans T
     refine g.out _ _ O (fun _=>?_)
     clear g K i 
     refine Zc 4 (by kernel_rfl) rfl (fun K g=>?_)
     go_simp
     refine (bK.out l m2 b2 s2 bc A.1 A.2.1 A.2.2 hU).mono ?_
     rintro e o ⟨x,rfl,⟨J,c1,I,c2,M,Z,rfl,hx⟩,n⟩
     have ba:=n.size
     obtain⟨R,af⟩:∃R,l.heap.size=R:=⟨_,rfl⟩
     obtain⟨Q,ag⟩:∃Q,o.heap.size=Q:=⟨_,rfl⟩
     have bi:o.heap.size<=Q/\Q<=o.heap.size/\l.heap.size<=R/\R<=l.heap.size:=by omega
     have a4:∀f:World,o.heap.size<=f.heap.size->(∀b,R<=b->b<Q->f.heap[b]? =o.heap[b]?)->Zo f J t.ms/\Zp true f I t.ts/\Zm f M ss':=fun f g1 g2=>hx f g1 (fun b x y=>g2 b (by omega) (by omega))
     clear af hx
     clear ag
     have D:=Zb O n
     replace T:=(n.block a (by omega)).trans T
     refine g.out _ _ D (fun _=>?_)
     clear g K n 
     refine Zz 2 [5,6,7] (by kernel_rfl) (by kernel_rfl) (by kernel_rfl) D ?_
     iterate 3 (refine⟨_,rfl,?_⟩;apply Exists.intro;refine⟨Or.inl ⟨by rfl,fun w' F=>?_⟩,?_⟩;(focus (go_simp<;>with_reducible rfl));simp only [Act.put,tkgZ])
     obtain⟨r0,r1,r2,r3,r4,r5,B,b8⟩:=Zh T
     have a8:=B 0
     have ac:=B 1
     have ab:=B 2
     have a9:=B 3
     have aa:=B 4
     have ad:=B 5
     have t6:=Zaf (a':=.int .i64 t.wd) (b':=.slice J t.ms.length c1) (c':=.int .i64 t.d) (d':=.slice I t.ts.length c2) (e':=.int .i64 t.nx) (f':=.slice M ss'.length Z) T
     refine Zc 9 (by kernel_rfl) rfl (fun K g=>?_)
     go_simp
     obtain⟨vz,k⟩:∃V,(((((o.setCell ⟨a,0,none⟩ (.int .i64 t.wd)).setCell ⟨a,1,none⟩ (.slice J t.ms.length c1)).setCell ⟨a,2,none⟩ (.int .i64 t.d)).setCell ⟨a,3,none⟩ (.slice I t.ts.length c2)).setCell ⟨a,4,none⟩ (.int .i64 t.nx)).setCell ⟨a,5,none⟩ (.slice M ss'.length Z)=V:=⟨_,rfl⟩
     have far:∀b,b≠a->vz.heap[b]? =o.heap[b]? :=fun b hb=>by rw [<-k];exact Zau hb
     have zz:vz.heap.size=o.heap.size:=by rw [<-k];simp [World.setCell]
     have G:wi.heap.size<=a:=by omega
     have Bz:Below wi.heap.size wi vz:=by rw [<-k];exact ((((((D.setCell (p:=⟨a,0,none⟩) G _).setCell (p:=⟨a,1,none⟩) G _).setCell (p:=⟨a,2,none⟩) G _).setCell (p:=⟨a,3,none⟩) G _).setCell (p:=⟨a,4,none⟩) G _).setCell (p:=⟨a,5,none⟩) G _)
     rw [k] at t6 ⊢
     have j:=a4 vz (by omega) (fun b h1 h2=>far b (by omega))
     refine g.out _ _ Bz (fun _=>?_)
     clear g K k r0 r1 r2 r3 r4 r5 B a8 ac ab a9 aa ad
     refine ZB [10] (by kernel_rfl) (by kernel_rfl) (by kernel_rfl) (by kernel_rfl) Bz ?_
     iterate 1 (refine⟨_,rfl,?_⟩;apply Exists.intro;refine⟨Or.inl ⟨by rfl,fun w' F=>?_⟩,?_⟩;(focus (go_simp<;>with_reducible rfl));simp only [Act.put,tkgZ])
     refine NoPanic.normal (NoPanic.normal ?_)
     try simp only [Exit.then]
     go_wp2_with fail
     go_meet
     exact⟨a,J,c1,I,c2,M,Z,rfl,rfl,t6,j.1,j.2.1,j.2.2,Bz⟩
  case rest=>
   obtain⟨H,h1,e1,h2,e2,h3,e3,rfl,rfl,hH,dg,db,cW,Lj⟩:=hcut
   generalize hwc:wc=wj at *
   clear hwc wc
   have br:=Za (bL.out.trans (Below.mono Lj bL.out.size))
   obtain⟨dm,aB,aD,aC⟩:=HP.out wj br.out
   have dK:=Za (eqDk true true h1 h2 h3 e1 e2 e3 t.wd t.ms t.d t.ts t.nx ss' J I M c1 c2 Z wj dg db cW aB aD aC cj.out)
   have ej:=Za (Zb eL.out Lj)
   obtain⟨u0,u1,u2,u3,u4,u5,-,-⟩:=Zh hH
   obtain⟨v0,v1,v2,v3,v4,v5,-,-⟩:=Zh dm
   clear hH dg db cW Lj dm aB aD aC HI bK
   go_wp2_with fail
   refine dK.out.mono ?_
   rintro e wk ⟨rfl,Lk⟩
   have ds:=Za (Zb ej.out Lk)
   have c9:=Za (br.out.trans (Below.mono Lk br.out.size))
   have aL:=bI.out
   have eF:=f7.out
   have tk:=(ds.out.block w8.heap.size (by omega)).trans dq.out
   have cU:=Za (fb.out wk (Sta.below ds.out (fun q hq=>by have:=hq.2;omega)))
   clear u0 u1 u2 u3 u4 u5 v0 v1 v2 v3 v4 v5
   obtain⟨u0,u1,u2,u3,u4,u5,-,-⟩:=Zh tk
   clear Lk aL eF tk dK
   go_wp2_with fail
   refine cU.out.mono ?_
   rintro e wl ⟨rfl,Ll⟩
   have HF:Hid (Below w.heap.size w wl):=by
    have h1:=de.out.size
    have h2:=bG.out.size
    have h3:=c9.out.size
    exact (de.out.trans (Below.mono bG.out h1)).trans ((Below.mono c9.out (by omega)).trans (Below.mono Ll (by omega)))
   clear Ll u0 u1 u2 u3 u4 u5 cU
   go_wp2_with fail
   go_ret
   exact⟨rfl,HF.out⟩
theorem Zhr(am aw aq ap:Option Addr)(cm cw cs cp:Nat)(wd d nx cl sq kd id:Int)(ms:List Mk)(ts:List Wb)(ss:List Zv)(p:List Int)(w:World)(hm:Zo w am ms)(hv:Zp true w aw ts)(hs:Zm w aq ss)(hsm:Z0 ms ts)(hlen:ss.length<=1048576)(hdk:dkB wd ms d ts nx ss=false):
 Calls Tryz.prog 12 #[.agg #[.int .i64 wd,.slice am ms.length cm,.int .i64 d,.slice aw ts.length cw,.int .i64 nx,.slice aq ss.length cs],.agg #[.int .i64 cl,.int .i64 sq,.int .i64 kd,.int .i64 id,.slice ap p.length cp]] w fun e w'=>e=.returned (.tuple #[.agg #[.int .i64 0,.slice none 0 0,.int .i64 0,.slice none 0 0,.int .i64 0,.slice none 0 0],.int .i64 (-2)])/\Below w.heap.size w w':=by
 obtain⟨j,a⟩:∃W,w.alloc (.cells #[.int .i64 wd,.slice am ms.length cm,.int .i64 d,.slice aw ts.length cw,.int .i64 nx,.slice aq ss.length cs] 44)=W:=⟨_,rfl⟩
 obtain⟨f,b⟩:∃W,j.alloc (.cells #[.int .i64 cl,.int .i64 sq,.int .i64 kd,.int .i64 id,.slice ap p.length cp] 48)=W:=⟨_,rfl⟩
 obtain⟨W,k⟩:∃W,f.alloc (.cells #[.int .i64 0,.slice none 0 0,.int .i64 0,.slice none 0 0,.int .i64 0,.slice none 0 0] 44)=W:=⟨_,rfl⟩
 have s1:=salZ a
 have s2:f.heap.size=w.heap.size+1+1:=by rw [<-b];simp [s1]
 have s3:W.heap.size=w.heap.size+1+1+1:=by rw [<-k];simp [s2]
 have z:=balZ a
 have n:=balZ b
 have q:=balZ k
 have x:W.heap[w.heap.size]? =some (.cells #[.int .i64 wd,.slice am ms.length cm,.int .i64 d,.slice aw ts.length cw,.int .i64 nx,.slice aq ss.length cs] 44):=(q.block _ (by omega)).trans ((n.block _ (by omega)).trans (by rw [<-a];exact heap_alloc_new w _))
 have y:=nal2Z k s2
 have i:=Zb (Zb z n) q
 have S:=Za i
 have s:=Za s3
 have m:=Za y
 have l:=Za (ZjX am aw aq cm cw cs wd ms d ts nx ss W (hm.next i) (hv.next i) (hs.next i) hsm (by omega))
 rw [hdk] at l
 obtain⟨Q,G,H,K,R,J,-,-⟩:=Zh x
 have h:Hid _:=aw3Z a b k
 clear hm hv hs hsm hdk a b k s1 s2 s3 z n q x y i
 go_enter Tryz.func12,Tryz.ntmps12
 go_upto_region 1 with fail
 rw [h.out]
 clear h
 go_wp2_with fail
 refine l.out.mono ?_
 rintro e T ⟨rfl,r⟩
 have Z:=s.out
 have o:=(r.block _ (by omega)).trans m.out
 obtain⟨X,r1,r2,r3,Y,r5,g,L⟩:=Zh o
 have P:=g 0
 have A:=g 1
 have F:=g 2
 have V:=g 3
 have M:=g 4
 have C:=g 5
 have t:=Zaf (a':=.int .i64 0) (b':=.slice none 0 0) (c':=.int .i64 0) (d':=.slice none 0 0) (e':=.int .i64 0) (f':=.slice none 0 0) o
 obtain⟨E,B,D,O,U,I,-,-⟩:=Zh t
 have c:w.heap.size<=w.heap.size+1+1:=by omega
 have u:=Zb S.out r
 have N:Hid (Below w.heap.size w ((((((T.setCell ⟨w.heap.size+1+1,0,none⟩ (.int .i64 0)).setCell ⟨w.heap.size+1+1,1,none⟩ (.slice none 0 0)).setCell ⟨w.heap.size+1+1,2,none⟩ (.int .i64 0)).setCell ⟨w.heap.size+1+1,3,none⟩ (.slice none 0 0)).setCell ⟨w.heap.size+1+1,4,none⟩ (.int .i64 0)).setCell ⟨w.heap.size+1+1,5,none⟩ (.slice none 0 0))):=((((((u.setCell (p:=⟨w.heap.size+1+1,0,none⟩) c _).setCell (p:=⟨w.heap.size+1+1,1,none⟩) c _).setCell (p:=⟨w.heap.size+1+1,2,none⟩) c _).setCell (p:=⟨w.heap.size+1+1,3,none⟩) c _).setCell (p:=⟨w.heap.size+1+1,4,none⟩) c _).setCell (p:=⟨w.heap.size+1+1,5,none⟩) c _)
 clear Q G H K R J l r u t o
 go_wp2_with fail
 refine bodyPost_ret (v:=.tuple #[.agg #[.int .i64 0,.slice none 0 0,.int .i64 0,.slice none 0 0,.int .i64 0,.slice none 0 0],.int .i64 (-2)]) (by simp [results,Tryz.results12,go_sem,E,B,D,O,U,I]) rfl ?_
 exact⟨rfl,N.out⟩
theorem Zkt{wd nx d:Int}{p:List Int}{ts:List Wb}(h:kpB wd nx d p ts=true):ZcX (nx,p) ts d=true:=by
 unfold kpB at h
 simp only [Bool.and_eq_true] at h
 exact h.2
theorem ZoP(s:St5)(ss:List Zv)(cl sq kd id:Int)(p:List Int)(hok:s.ok=true)(hsm:Zbi s.ms s.ts ss)(hlen:ss.length<=8):Zbi (apS s ss cl sq kd id p).ms (apS s ss cl sq kd id p).ts (ZcF s ss cl sq kd id p):=by
 unfold apS ZcF
 rcases Zff ss cl sq kd id p with _ | _
 · exact hsm
 · simp only [if_true]
   refine⟨?_,by have:=Zgi (cl,sq,ZdT s kd id p) ss;omega⟩
   unfold ZeG
   rcases kd ==1 with _ | _
   · simp only [Bool.false_eq_true,if_false]
     unfold ZdU
     rw [hok]
     refine⟨ZiP hsm.1.1,hsm.1.2.1,?_⟩
     have a:=Zku s.ms id
     have b:=hsm.1.2.2
     show _<=_
     simp only [if_true]
     omega
   · simp only [if_true]
     unfold ZdV
     rw [hok]
     exact ZiQ (wd:=s.wd) hok hsm.1 _ Zkt
theorem Zhs(am aw aq ao:Option Addr)(cm cw cs ca:Nat)(wd d nx cl sq kd id:Int)(ms:List Mk)(ts:List Wb)(ss:List Zv)(p:List Int)(w:World)(hm:Zo w am ms)(hw:Zp false w aw ts)(hs:Zm w aq ss)(hf:ZeF ms ts)(hn:ss.length<=maxLen)(hp:Zy w ao p)(hpn:p.length<=maxLen):
 Calls Tryz.prog 3 #[.agg #[.int .i64 wd,.slice am ms.length cm,.int .i64 d,.slice aw ts.length cw,.int .i64 nx,.slice aq ss.length cs],.agg #[.int .i64 cl,.int .i64 sq,.int .i64 kd,.int .i64 id,.slice ao p.length ca]] w fun e w'=>e=.returned (.bool true)/\Below w.heap.size w w':=by
 rcases h:dkB wd ms d ts nx ss with _ | _
 · refine Zc0 am aw aq ao cm cw cs ca wd d nx cl sq kd id (-2) ms ts ss [] p ZjY w hm hw hs hf hn hp hpn (fun _=>⟨Zkv,by simp⟩) (fun f _ W m b s c g j k _=>?_) (fun f _ W m b s c g j k _=>?_)
   · refine (Zht _ _ _ _ _ _ _ _ wd d nx cl sq kd id ms ts ss p W g j k f.1 f.2 h).mono ?_
     rintro e w' ⟨rfl,L⟩
     exact⟨_,rfl,⟨none,0,none,0,none,0,rfl,fun _ _ _=>⟨Or.inl rfl,Or.inl rfl,Or.inl rfl⟩⟩,L⟩
   · refine (Zhr _ _ _ _ _ _ _ _ wd d nx cl sq kd id ms ts ss p W g j k f.1 f.2 h).mono ?_
     rintro e w' ⟨rfl,L⟩
     exact⟨_,rfl,ZlC (F:=fun _=>False) (lo:=W.heap.size) (s:=ZjY) (ss:=[]) (am:=none) (cm:=0) (aw:=none) (cw:=0) (a:=none) (c:=0) (StO.zero true w') (Or.inl ⟨rfl,rfl,rfl⟩) (by simp) (fun _ h=>h.elim) (Nat.le_refl _) (fun _ h=>h.elim) rfl,L⟩
 · obtain⟨l,n⟩:stB wd ms d ts nx=true/\ssB ss=true:=by unfold dkB at h;simpa using h
   exact Zc0 am aw aq ao cm cw cs ca wd d nx cl sq kd id _ ms ts ss _ p _ w hm hw hs hf hn hp hpn
    (fun f=>ZoP ⟨wd,ms,d,ts,nx⟩ ss cl sq kd id p l f ((ZbF ss).1 n).1)
    (fun f i W m b s c g j k o=>ZlD _ _ _ _ _ _ _ _ wd d nx cl sq kd id ms ts ss p W g j k o i f.1 h)
    (fun f i W m b s c g j k o=>ZlE _ _ _ _ _ _ _ _ wd d nx cl sq kd id ms ts ss p W g j k o i f.1 h)
end Go.Proofs.YtilkaeclgmcolaaGreat
