import Derived.Test.YtilkaeclgmcolaaGreatTwArgsZz
import Derived.Test.YtilkaeclgmcolaaGreatFeHelpZz
import Derived.Test.YtilkaeclgmcolaaGreatDkOkZz
import Derived.Test.YtilkaeclgmcolaaGreatAppendZz
import Derived.Test.YtilkaeclgmcolaaGreatCmMemZz
import Derived.Test.YtilkaeclgmcolaaGreatMMarkZz
set_option maxRecDepth 100000
set_option maxHeartbeats 2000000
namespace Go.Proofs.YtilkaeclgmcolaaGreat
open Go Go.RowKit
theorem ZoB(b cap:Nat)(k0:Int)(h0:1<=k0)(h00:k0<=2000000)(ts:List Wb)(lo:Nat->Nat)(w:World)(hp:Zad w b ts.length ts.length ts lo)(hsm:Z1 ts)(htot:ZeU ts<=1048576):
 Calls Tryz.prog 140 #[.slice (some ⟨b,0,none⟩) ts.length cap,.int .i64 k0] w fun e w'=>(∃k1:Int,1<=k1/\k1<=10000000/\e=.returned (.int .i64 k1))/\GIn (lo 0) (lo ts.length) w w':=by
 obtain⟨hn,y⟩:=hsm
 have u:=Za y
 have g:=Za hp
 have s:Hid (∀k:Nat,tot (fun j=>ZcK (Zi ts j)) (k+1)=tot (fun j=>ZcK (Zi ts j)) k+ZcK (Zi ts k)):=fun k=>rfl
 have v:Hid (∀k,k<=ts.length->tot (fun j=>ZcK (Zi ts j)) k<=1048576):=fun k O=>by
  have M:∀m,k<=m->tot (fun j=>ZcK (Zi ts j)) k<=tot (fun j=>ZcK (Zi ts j)) m:=by
   intro m
   induction m with
   | zero=>intro h;rw [show k=0 by omega];exact Nat.le_refl _
   | succ m ih=>
     intro h
     rcases Nat.lt_or_ge k (m+1) with e | e
     · exact Nat.le_trans (ih (by omega)) (Nat.le_add_right _ _)
     · rw [show k=m+1 by omega];exact Nat.le_refl _
  have:=M ts.length O
  unfold ZeU at htot
  omega
 clear y hp htot
 go_enter Tryz.func140,Tryz.ntmps140
 go_wp2
 go_loopw [1,5] (fun W i wr=>∃(k:Nat) (k1:Int),k<=ts.length/\i=.int .i64 k/\W=.int .i64 k1/\1<=k1/\k1<=k0+(tot (fun j=>ZcK (Zi ts j)) k:Nat)/\GIn (lo 0) (lo k) w wr) (fun _ i _=>ts.length-(intOf i).toNat)
 case atStart=>exact⟨0,k0,Nat.zero_le _,rfl,rfl,h0,by simp [tot],GIn.refl _ _ _⟩
 case round=>
  obtain⟨k,k1,O,rfl,rfl,q,p,n⟩:=hrel
  have B:=Za p
  have a8:k1<=3048577:=by have:=v.out k O;omega
  clear p
  have HG:=Za n
  have hb:=g.out.lt
  have V:=g.out.first
  by_cases hlt:k<ts.length
  · obtain⟨P,E,c0,c1,c⟩:=g.out.at_ k hlt
    have a2:=g.out.lo_le k (by omega)
    have aa:=g.out.le_last (k+1) (by omega)
    have a6:=g.out.mono k hlt
    have C:=g.out.last
    have A:=n.2.2.2.2 b hb (Or.inl V)
    have I:=n.2.2.2.1
    have D:=(World.cell?_of_block (a:=⟨b,k*2,none⟩) A).trans c0
    have o:=(World.cell?_of_block (a:=⟨b,k*2+1,none⟩) A).trans c1
    have f:=Za (c.far (w':=wr) I (fun j J Y=>n.2.2.2.2 j (by omega) (Or.inr J)))
    have a0:=c.lo
    have T:=c.lt
    have X:E<lo (k+1):=c.co.2.1
    have Q:P<wr.heap.size:=by have:=c.hi;omega
    have U:=Za (Zmi P E (Zi ts k).1.length k1 (Zi ts k).1 wr f.out.mo (u.out k).1 q (by omega))
    have x:Hid (ZcK (Zi ts k)=Zb1 (Zi ts k).1+ZeT (Zi ts k).2):=rfl
    have K:(Zb1 (Zi ts k).1:Int)<=1048576:=by have:=v.out (k+1) (by omega);have:=s.out k;have:=x.out;omega
    clear n c c0 c1 A
    generalize hml:(Zi ts k).1.length=ml at *
    generalize hll:(Zi ts k).2.length=ll at *
    go_wp2_with fail
    refine U.out.mono ?_
    rintro e w2 ⟨rfl,r⟩
    have t:=r.2.2.2.2 b (by omega) (Or.inl (by omega))
    have N:=(World.cell?_of_block (a:=⟨b,k*2+1,none⟩) t).trans o
    have z:=Za (Zo7 E (lo (k+1)) ll (k1+Zb1 (Zi ts k).1) (Zi ts k).2 w2 (f.out.co.far r.2.2.2.1 (fun i M h2 h3=>r.2.2.2.2 i h3 (Or.inr M))) (u.out k).2 (by omega) (by omega))
    rw [hll] at z
    have F:=Za (Zen (l:=lo 0) (h:=lo (k+1)) HG.out r (Nat.le_refl _) (by omega) (by omega) (by omega))
    clear r D o t U f hll hml
    obtain⟨L,d⟩:∃L:Int,(Zb1 (Zi ts k).1:Int)=L:=⟨_,rfl⟩
    rw [d] at z ⊢
    have G:=Za d
    have R:0<=L:=by omega
    clear d K
    go_wp2_with fail
    refine z.out.mono ?_
    rintro e w3 ⟨⟨k3,Z,a4,rfl⟩,S⟩
    have H:=Za (Zen (l:=lo 0) (h:=lo (k+1)) F.out S (Nat.le_refl _) (by omega) (Nat.le_refl _) (Nat.le_refl _))
    clear S N z
    go_wp2_with fail
    go_roundw
    case rel=>exact⟨k+1,k3,by omega,by go_num,rfl,by omega,by have:=B.out;have:=s.out k;have:=x.out;have:=G.out;omega,H.out⟩
    case measure=>simp [intOf];omega
  · go_wp2
    go_ret
    obtain rfl:k=ts.length:=by omega
    exact⟨⟨k1,q,by omega,rfl⟩,n⟩
theorem ZoC(b cap:Nat)(k0:Int)(h0:1<=k0)(h00:k0<=2000000)(d:Int)(ts:List Wb)(lo:Nat->Nat)(w:World)(hp:Zad w b ts.length ts.length ts lo)(hsm:Z1 ts)(htot:ZeU ts<=1048576):
 Calls Tryz.prog 94 #[.agg #[.int .i64 d,.slice (some ⟨b,0,none⟩) ts.length cap],.int .i64 k0] w fun e w'=>(∃k1:Int,1<=k1/\k1<=10000000/\e=.returned (.int .i64 k1))/\GIn (lo 0) (lo ts.length) w w':=by
 obtain⟨W,g⟩:∃W,w.alloc (.cells #[.int .i64 d,.slice (some ⟨b,0,none⟩) ts.length cap] 39)=W:=⟨_,rfl⟩
 have j:=balZ g
 have k1:W.cell? ⟨w.heap.size,1,none⟩=some (.slice (some ⟨b,0,none⟩) ts.length cap):=by rw [<-g];simp
 have m:=Za (ZoB b cap k0 h0 h00 ts lo W (hp.next j) hsm htot)
 have a:=Za j
 clear hp j hsm htot
 go_enter Tryz.func94,Tryz.ntmps94
 go_wp2_with fail
 refine m.out.mono ?_
 rintro e o ⟨⟨r,h,f,rfl⟩,k⟩
 have c:=Za k
 clear k g k1
 go_wp2_with fail
 go_ret
 refine⟨⟨r,h,f,rfl⟩,c.out.1.trans a.out.os,c.out.2.1.trans a.out.tape,c.out.2.2.1.trans a.out.output,Nat.le_trans a.out.size c.out.2.2.2.1,fun i l n=>?_⟩
 exact (c.out.2.2.2.2 i (by have:=a.out.size;omega) n).trans (a.out.block i l)
theorem ZpM(bm hi b:Nat)(wd:Int)(ms:List Mk)(d:Int)(ts:List Wb)(nx:Int)(lo:Nat->Nat)(w:World)(ho:Zcf w bm hi b ms ts lo)(hsm:Z0 ms ts):
 Calls Tryz.prog 55 #[.agg #[.int .i64 wd,.slice (some ⟨bm,0,none⟩) ms.length ms.length,.int .i64 d,.slice (some ⟨b,0,none⟩) ts.length ts.length,.int .i64 nx],.int .i64 1] w fun e w'=>(∃k1:Int,1<=k1/\k1<=10000000/\e=.returned (.int .i64 k1))/\GIn bm (lo ts.length) w w':=by
 obtain⟨W,z⟩:∃W,w.alloc (.cells #[.int .i64 wd,.slice (some ⟨bm,0,none⟩) ms.length ms.length,.int .i64 d,.slice (some ⟨b,0,none⟩) ts.length ts.length,.int .i64 nx] 41)=W:=⟨_,rfl⟩
 have t:=balZ z
 have n:ZbA true W w.heap.size (some ⟨bm,0,none⟩) (some ⟨b,0,none⟩) ms.length ts.length wd ms d ts nx:=by rw [<-z];exact ZbA.box ho.mview ho.wview
 have g:=ho.next t
 have r:=ho.webs.last
 have E:=ho.webs.first
 have I:=ho.webs.le_last 0 (Nat.zero_le _)
 have N:=ho.first
 have O:=ho.last
 have x:(Zb1 ms:Int)<=1048576:=by have:=hsm.2.2;omega
 have m:(0:Int)<=(Zb1 ms:Int):=Int.natCast_nonneg _
 have k1:=n.c1
 have v:=Za n
 have j:=Za t
 have M:=Za g
 have y:=Za (Zmi bm hi ms.length 1 ms W g.over hsm.1 (by omega) (by omega))
 have o:=Za (fun (D:World) (hp:Zad D b ts.length ts.length ts lo)=>ZoC b ts.length (1+Zb1 ms) (by omega) (by omega) d ts lo D hp hsm.2.1 (by have:=hsm.2.2;omega))
 clear ho g t n hsm
 obtain⟨C,f⟩:∃C:Int,(Zb1 ms:Int)=C:=⟨_,rfl⟩
 rw [f] at y o x m
 clear f
 go_enter Tryz.func55,Tryz.ntmps55
 go_wp2_with fail
 refine y.out.mono ?_
 rintro e F ⟨rfl,k⟩
 have s:=v.out.lt
 have p:=k.2.2.2.2 w.heap.size s (Or.inr (by omega))
 have c2:=(World.cell?_of_block (a:=⟨w.heap.size,2,none⟩) p).trans v.out.c2
 have H:=(World.cell?_of_block (a:=⟨w.heap.size,3,none⟩) p).trans v.out.c3
 have B:=Za (o.out F (M.out.webs.far k.2.2.2.1 (fun i N L=>k.2.2.2.2 i L (Or.inr (by omega)))))
 have K:=Za k
 clear k p k1 z y o
 go_wp2_with fail
 refine B.out.mono ?_
 rintro e P ⟨⟨G,q,u,rfl⟩,A⟩
 have c:=Za (Zen (l:=bm) (h:=lo ts.length) K.out A (Nat.le_refl _) (by omega) (by omega) (Nat.le_refl _))
 clear A c2 H B
 go_wp2_with fail
 go_ret
 refine⟨⟨G,q,u,rfl⟩,c.out.1.trans j.out.os,c.out.2.1.trans j.out.tape,c.out.2.2.1.trans j.out.output,Nat.le_trans j.out.size c.out.2.2.2.1,fun i hi J=>?_⟩
 exact (c.out.2.2.2.2 i (by have:=j.out.size;omega) J).trans (j.out.block i hi)
theorem Znw(bm hi b bs:Nat)(wd:Int)(ms:List Mk)(d:Int)(ts:List Wb)(nx:Int)(ss:List Zv)(lo:Nat->Nat)(w:World)(ho:Zfe w bm hi b lo bs ms ts ss)(hsm:Zbi ms ts ss):
 Calls Tryz.prog 15 #[.agg #[.int .i64 wd,.slice (some ⟨bm,0,none⟩) ms.length ms.length,.int .i64 d,.slice (some ⟨b,0,none⟩) ts.length ts.length,.int .i64 nx,.slice (some ⟨bs,0,none⟩) ss.length ss.length],.int .i64 1] w fun e w'=>(∃k1:Int,1<=k1/\k1<=20000000/\e=.returned (.int .i64 k1))/\GIn bm (bs+1) w w':=by
 obtain⟨W,l⟩:∃W,w.alloc (.cells #[.int .i64 wd,.slice (some ⟨bm,0,none⟩) ms.length ms.length,.int .i64 d,.slice (some ⟨b,0,none⟩) ts.length ts.length,.int .i64 nx,.slice (some ⟨bs,0,none⟩) ss.length ss.length] 44)=W:=⟨_,rfl⟩
 have p:=balZ l
 have y:=nalZ l
 have f:=ho.next p
 have E:=ZdS ho.row
 have P:=ho.st.first
 have M:=ho.st.last
 have F:=ho.st.webs.le_last 0 (Nat.zero_le _)
 have A:=ho.st.webs.first
 have o:=altZ l
 have z:=Za (ZpM bm hi b wd ms d ts nx lo W f.st hsm.1)
 have B:=Za f.row
 have K:=Za p
 have x:=Za hsm.2
 obtain⟨J,k1,C,D,L,k,-,-⟩:=Zh y
 have I:=Za k
 clear ho f p y hsm k
 go_enter Tryz.func15,Tryz.ntmps15
 go_wp2_with fail
 refine z.out.mono ?_
 rintro e v ⟨⟨u,m,q,rfl⟩,c⟩
 have t:=c.2.2.2.2 w.heap.size o (Or.inr (by omega))
 have k:=(World.cell?_of_block (a:=⟨w.heap.size,5,none⟩) t).trans I.out
 have j:Zq (lo ts.length) v bs ss.length ss:=Zej B.out (c.2.2.2.2 bs (by omega) (Or.inr (by omega)))
 have s:=Za (Zhz (lo ts.length) bs ss.length u ss v j (by have:=x.out;omega) m q)
 have H:=Za c
 clear c t j z l J k1 C D L
 go_wp2_with fail
 refine s.out.mono ?_
 rintro e G ⟨rfl,-,h⟩
 have N:=x.out
 have n:Hid (GIn bm (bs+1) w G):=by
  have c:=H.out
  have g:=K.out
  refine⟨h.os.trans (c.1.trans g.os),h.tape.trans (c.2.1.trans g.tape),h.output.trans (c.2.2.1.trans g.output),by have:=h.size;have:=c.2.2.2.1;have:=g.size;omega,fun i r O=>?_⟩
  exact (h.block i (by have:=c.2.2.2.1;have:=g.size;omega) (fun e=>by injection e with e;omega)).trans ((c.2.2.2.2 i (by have:=g.size;omega) (by omega)).trans (g.block i r))
 clear h k s
 go_wp2_with fail
 go_ret
 exact⟨⟨u+3*(ss.length:Int),by omega,by omega,rfl⟩,n.out⟩
theorem Znx(b:Nat)(cl sq kd id k0:Int)(p:List Int)(w:World)(ho:Own w b p)(hn:p.length<=1048576)(h0:1<=k0)(h1:k0<=20000000):
 Calls Tryz.prog 16 #[.agg #[.int .i64 cl,.int .i64 sq,.int .i64 kd,.int .i64 id,.slice (some ⟨b,0,none⟩) p.length p.length],.int .i64 k0] w fun e w'=>(∃k1:Int,1<=k1/\e=.returned (.int .i64 k1))/\GIn b (b+1) w w':=by
 obtain⟨W,g⟩:∃W,w.alloc (.cells #[.int .i64 cl,.int .i64 sq,.int .i64 kd,.int .i64 id,.slice (some ⟨b,0,none⟩) p.length p.length] 48)=W:=⟨_,rfl⟩
 have h:=balZ g
 have j:=nalZ g
 have k:=Za (Zfx b k0 p W (Own.below ho (Own.lt ho) h) hn h0 (by omega))
 have m:=Za h
 obtain⟨c0,c1,c2,o,l,-,-⟩:=Zk j
 clear ho h j
 go_enter Tryz.func16,Tryz.ntmps16
 go_wp2_with fail
 refine k.out.mono ?_
 rintro e n ⟨rfl,-,c⟩
 have f:Hid (GIn b (b+1) w n):=by
  have a:=m.out
  refine⟨c.os.trans a.os,c.tape.trans a.tape,c.output.trans a.output,by have:=c.size;have:=a.size;omega,fun i d q=>?_⟩
  exact (c.block i (by have:=a.size;omega) (fun e=>by injection e with e;omega)).trans (a.block i d)
 clear c g c0 c1 c2 o l k
 go_wp2_with fail
 go_ret
 exact⟨⟨k0+(p.length:Int),by omega,rfl⟩,f.out⟩
end Go.Proofs.YtilkaeclgmcolaaGreat
