import Derived.Test.YtilkaeclgmcolaaGreatFeHelpZz
import Derived.Test.YtilkaeclgmcolaaGreatMCopyZz
import Derived.Test.YtilkaeclgmcolaaGreatCopyZz
import Derived.Test.YtilkaeclgmcolaaGreatZSpecZz
import Derived.BigQuiet
import Derived.Deep.LoopGhost
import Derived.Test.YtilkaeclgmcolaaGreatFg0Zz
import Derived.Test.YtilkaeclgmcolaaGreatJRwZz
import Derived.Test.YtilkaeclgmcolaaGreatFeWalkZz
import Derived.Test.YtilkaeclgmcolaaGreatMathZz
set_option maxRecDepth 100000
set_option maxHeartbeats 4000000
namespace Go.Proofs.YtilkaeclgmcolaaGreat
open Go Go.RowKit
def ZaT(lo:List Mk)(m:Mk):Bool:=decide (0<=ZC lo m.1) && decide (mat lo (ZD lo m.1)=m.2)
def ZaR(lo hi:List Mk):Bool:=hi.all (ZaT lo)
def Zbr(ts:List Wb)(n:Nat):Bool:=Zax (Zi ts n).1 (Zi ts n).2 && (n ==0 || ZaR (Zi ts (n-1)).1 (Zi ts n).1)
def Zap(d:Int)(ts:List Wb):Bool:=inR d 0 1000002 && (decide (ts.length=4) && (List.range 4).all (Zbr ts))
theorem Zdn{lo:List Mk}{m:Mk}:ZaT lo m=true↔0<=ZC lo m.1/\mat lo (ZD lo m.1)=m.2:=by simp [ZaT]
theorem Zga{l:List Mk}{k:Nat}(h:k<l.length):ZJ l k∈l:=by simp [ZJ,List.getD,h]
theorem Zgb{lo hi:List Mk}{k:Nat}(hk:k<hi.length)(h:ZaT lo (ZJ hi k)=false):ZaR lo hi=false:=by
 rcases e:ZaR lo hi with _ | _
 · rfl
 · rw [ZaR,List.all_eq_true] at e
   rw [e _ (Zga hk)] at h;cases h
theorem ZeE{lo hi:List Mk}(h:∀k,k<hi.length->ZaT lo (ZJ hi k)=true):ZaR lo hi=true:=by
 rw [ZaR,List.all_eq_true]
 intro m b
 obtain⟨k,a,rfl⟩:=List.getElem_of_mem b
 have:=h k a
 simpa [ZJ,List.getD,a] using this
theorem Zfd{d:Int}{ts:List Wb}{n:Nat}(hn:n<4)(h:Zbr ts n=false):Zap d ts=false:=by
 rcases e:Zap d ts with _ | _
 · rfl
 · simp only [Zap,Bool.and_eq_true,List.all_eq_true,List.mem_range] at e
   rw [e.2.2 n hn] at h;cases h
theorem ZiL{d:Int}{ts:List Wb}(h1:inR d 0 1000002=true)(h2:ts.length=4)(h:∀n,n<4->Zbr ts n=true):Zap d ts=true:=by
 simp only [Zap,Bool.and_eq_true,List.all_eq_true,List.mem_range,decide_eq_true_eq]
 exact⟨h1,h2,h⟩
theorem ZgP{d:Int}{ts:List Wb}(h1:inR d 0 1000002=false):Zap d ts=false:=by simp [Zap,h1]
theorem ZgQ{d:Int}{ts:List Wb}(h1:ts.length≠4):Zap d ts=false:=by simp [Zap,h1]
theorem ZgR{ts:List Wb}{n:Nat}(h:Zax (Zi ts n).1 (Zi ts n).2=false):Zbr ts n=false:=by simp [Zbr,h]
theorem Zgc{ts:List Wb}{n:Nat}(h0:0<n)(h:ZaR (Zi ts (n-1)).1 (Zi ts n).1=false):Zbr ts n=false:=by
 have:n≠0:=by omega
 simp [Zbr,h,this]
theorem Zdr{ts:List Wb}{n:Nat}(h1:Zax (Zi ts n).1 (Zi ts n).2=true)(h:0<n->ZaR (Zi ts (n-1)).1 (Zi ts n).1=true):Zbr ts n=true:=by
 rcases Nat.eq_zero_or_pos n with e | e
 · subst e;simp [Zbr,h1]
 · simp [Zbr,h1,h e]
theorem ZcT{ts:List Wb}{n:Nat}(h:Zbr ts n=true):Zax (Zi ts n).1 (Zi ts n).2=true:=by
 rw [Zbr,Bool.and_eq_true] at h;exact h.1
structure Zgd(s:Bool)(w:World)(X:Nat)(d:Int)(aw:Option Addr)(cw:Nat)(ts:List Wb):Prop where
 lt:X<w.heap.size
 c0:w.cell? ⟨X,0,none⟩=some (.int .i64 d)
 c1:w.cell? ⟨X,1,none⟩=some (.slice aw ts.length cw)
 wv:Zp s w aw ts
theorem Zgd.box{s:Bool}{w:World}{d:Int}{aw:Option Addr}{cw:Nat}{ts:List Wb}{t:TypeId}(h:Zp s w aw ts):Zgd s (w.alloc (.cells #[.int .i64 d,.slice aw ts.length cw] t)) w.heap.size d aw cw ts:=
 ⟨by simp,by simp,by simp,h.next ((Below.refl _ _).alloc (Nat.le_refl _) _)⟩
theorem Zgd.below{s:Bool}{w w':World}{X:Nat}{d:Int}{aw:Option Addr}{cw:Nat}{ts:List Wb}(h:Zgd s w X d aw cw ts)(L:Below w.heap.size w w'):Zgd s w' X d aw cw ts:=
 ⟨Nat.lt_of_lt_of_le h.lt L.size,(L.cell (p:=⟨X,0,none⟩) h.lt).trans h.c0,(L.cell (p:=⟨X,1,none⟩) h.lt).trans h.c1,h.wv.next L⟩
theorem Zgd.web{s:Bool}{w:World}{X:Nat}{d:Int}{aw:Option Addr}{cw:Nat}{ts:List Wb}(h:Zgd s w X d aw cw ts){n:Nat}(hn:n<ts.length):∃b off am cm al cl,aw=some ⟨b,off,none⟩/\b<w.heap.size/\w.cell? ⟨b,off+n*2,none⟩=some (.slice am (Zi ts n).1.length cm)/\w.cell? ⟨b,off+n*2+1,none⟩=some (.slice al (Zi ts n).2.length cl)/\Zo w am (Zi ts n).1/\ZS w al (Zi ts n).2/\(s=true->(Zi ts n).1.length<=cm/\(Zi ts n).2.length<=cl):=by
 obtain⟨b,off,e,a,f⟩:=h.wv.seg (by omega)
 obtain⟨am,cm,al,cl,c,g,j,i,k⟩:=f n hn
 exact⟨b,off,am,cm,al,cl,e,a,c,g,j,i,k⟩
theorem ZiM(s:Bool)(aw:Option Addr)(cw:Nat)(d:Int)(ts:List Wb)(w:World)(hv:Zp s w aw ts)(hsm:Z1 ts)(hin:inR d 0 1000002=true)(hlen:ts.length=4):
 Calls Tryz.prog 115 #[.agg #[.int .i64 d,.slice aw 4 cw]] w fun e w'=>e=.returned (.bool (Zap d ts))/\Below w.heap.size w w':=by
 obtain⟨W,hW⟩:∃W,w.alloc (.cells #[.int .i64 d,.slice aw 4 cw] 39)=W:=⟨_,rfl⟩
 have hB:=balZ hW
 have hI:Zgd s W w.heap.size d aw cw ts:=by rw [<-hW,<-hlen];exact Zgd.box hv
 have HD:=Za (ZcQ d W)
 rw [hin] at HD
 have k0:=hI.c0
 have Q:=hI.c1
 rw [hlen] at Q
 have HB:=Za hB
 have HI:=Za hI
 have N:=Za hsm.2
 have l:=Za hlen
 have aM:=Za hin
 clear hv hsm hB hI hin hlen
 go_enter Tryz.func115,Tryz.ntmps115
 go_wp2_with fail
 refine HD.out.mono ?_
 rintro e R ⟨rfl,aH⟩
 subst aH
 go_wp2_with fail
 clear k0 HD
 go_loopg [3] 4 (fun gk nv wr=>∃n:Nat,n<=4/\4-n<=gk/\nv=.int .i64 n/\(∀j,j<n->Zbr ts j=true)/\Below R.heap.size R wr)
 case atStart=>exact⟨0,by omega,by omega,rfl,fun j hj=>by omega,Below.refl _ _⟩
 case round=>
  obtain⟨n,hn,bb,rfl,S,L⟩:=hrel
  have HA:=Za S
  have HL:=Za L
  have D:=HI.out.below L
  clear S L Q
  by_cases hlt:n<4
  · have aq:(n:Int)<4:=by omega
    have bD:=n0Z n
    obtain⟨b,v,am,cm,al,cl,rfl,hb,c0,c1,hm,hc,-⟩:=D.web (n:=n) (by rw [l.out];exact hlt)
    have Q:=D.c1
    rw [l.out] at Q
    have HC:=Za (Zo9 am al cm cl (Zi ts n).1 (Zi ts n).2 wr hm hc (N.out n).1 (N.out n).2)
    have aP:=Za D
    clear hm hc D
    rcases hwb:Zax (Zi ts n).1 (Zi ts n).2 with _ | _
    · rw [hwb] at HC
      have HV:=Za (Zfd (d:=d) hlt (ZgR hwb))
      clear hwb
      generalize (Zi ts n).1.length=l1 at *
      generalize (Zi ts n).2.length=l2 at *
      go_wp2_with fail
      refine HC.out.mono ?_
      rintro e w2 ⟨rfl,L2⟩
      have HF:=Za (Zb HB.out (Zb HL.out L2))
      clear L2
      go_wp2_with fail
      go_ret
      exact⟨Zd HV.out.symm,HF.out⟩
    · rw [hwb] at HC
      have ag:=Za hwb
      have q:=Za (ZF (ZY hwb))
      clear hwb
      obtain⟨c,T⟩:∃c,(Zi ts n).1=c:=⟨_,rfl⟩
      have O:=Za T
      rw [T] at HC c0 q
      clear T
      generalize (Zi ts n).2.length=l2 at *
      go_wp2_with fail
      refine HC.out.mono ?_
      rintro e w2 ⟨rfl,L2⟩
      have aR:=Za (Zb HL.out L2)
      clear L2 Q c0 c1 aP HC
      go_wp2_with fail
      go_loopw [4] (fun iv E=>∃i:Nat,i<=c.length/\(n=0->i=0)/\iv=.int .i64 i/\(∀j,j<i->ZaT (Zi ts (n-1)).1 (ZJ c j)=true)/\Below R.heap.size R E) (fun iv _=>c.length-(intOf iv).toNat)
      case atStart=>exact⟨0,Nat.zero_le _,fun _=>rfl,rfl,fun j hj=>by omega,aR.out⟩
      case round=>
       obtain⟨i,bu,hz,rfl,B,Li⟩:=hrel
       generalize hwi:wr=E at *
       clear hwi wr
       have Y:=Za B
       have X:=Za Li
       have o:=HI.out.below Li
       obtain⟨b2,b0,bi,bd,bB,bh,eb,bq,d0,d1,y,-,-⟩:=o.web (n:=n) (by rw [l.out];exact hlt)
       injection eb with eb
       injection eb with eb1 eb2
       subst eb1 eb2
       have Q:=o.c1
       rw [l.out] at Q
       rw [O.out] at d0 y
       clear B Li
       by_cases hil:i<c.length
       · have b6:=q.out
         have ae:(i:Int)<(c.length:Int):=by omega
         have bf:=n0Z i
         by_cases hn1:0<n
         · have aG:(n:Int) > 0:=by omega
           obtain⟨p,hp⟩:∃p,n-1=p:=⟨_,rfl⟩
           have bj:IntKind.i64.wrap ((n:Int)-1)=(p:Int):=by rw [IntWalk.i64_in _ ⟨by omega,by omega⟩];omega
           have bt:=n0Z p
           have ba:(p:Int)<4:=by omega
           obtain⟨b3,aY,aj,K,bp,bg,a2,aQ,e0,e1,a7,-,-⟩:=o.web (n:=p) (by rw [l.out];omega)
           injection a2 with a2
           injection a2 with eb31 eb32
           subst eb31 eb32
           obtain⟨mb,mo,rfl,bl,ao⟩:=ZaV.seg y (by omega)
           obtain⟨bE,pa,pc,bo,af⟩:=ao.at (i:=i) hil
           have ai:=Za (N.out p).1
           rw [hp] at Y
           have G:Hid (ZaR (Zi ts p).1 c=false->Zap d ts=false):=fun h=>Zfd hlt (Zgc hn1 (by rw [hp,O.out];exact h))
           have I:=Za (fun h=>Zgb (lo:=(Zi ts p).1) hil h)
           have A:Hid (ZaT (Zi ts p).1 (ZJ c i)=true↔0<=ZC (Zi ts p).1 (mid c i)/\mat (Zi ts p).1 (ZD (Zi ts p).1 (mid c i))=mat c i):=Zdn
           have F:=(N.out n).1
           rw [O.out] at F
           have bn:=F.2 i
           obtain⟨V,hV⟩:∃V,E.alloc (.cells #[.int .i64 (mid c i),.slice pa (mat c i).length pc] 161)=V:=⟨_,rfl⟩
           have LV:=balZ hV
           have y0:V.cell? ⟨E.heap.size,0,none⟩=some (.int .i64 (mid c i)):=by rw [<-hV];simp
           have y1:V.cell? ⟨E.heap.size,1,none⟩=some (.slice pa (mat c i).length pc):=by rw [<-hV];simp
           have aJ:=o.lt
           have J:=(LV.cell (p:=⟨w.heap.size,1,none⟩) aJ).trans Q
           have P:=(LV.cell (p:=⟨b,v+p*2,none⟩) aQ).trans e0
           have a8:=Za (Zb X.out LV)
           have t:Hid (∀m,Calls Tryz.prog 116 #[.slice aj (Zi ts p).1.length K,.int .i64 (mid c i)] (V.drewN m) fun e z=>e=.returned (.int .i64 (ZC (Zi ts p).1 (mid c i)))/\∃m',z=V.drewN m'):=fun m=>by
            refine (Zgo aj K (Zi ts p).1 (mid c i) (V.drewN m) (a7.next (below_drewN LV m)) ai.out.1).mono ?_
            rintro e z ⟨he,hm⟩
            exact⟨he,m,hm⟩
           have Z:=Za (af.next LV)
           have a3:=Za (a7.next LV)
           clear ao y a7 o af LV F
           generalize hlo:(Zi ts p).1=lo at *
           generalize hxid:mid c i=x at *
           generalize hxat:mat c i=xa at *
           have aL:Hid ((Zi ts (n-1)).1=lo):=by show _=_;rw [hp,hlo]
           clear hlo hxid hxat
           rcases hfz:decide (0<=ZC lo x) with _ | _
           · have r:ZC lo x<0:=by simpa using hfz
             have C:=Za (G.out (I.out (by rcases e:ZaT lo (ZJ c i) with _ | _;rfl;have:=A.out.1 e;omega)))
             clear hfz A G I
             generalize ZC lo x=fz at *
             go_wp2_with fail
             clear hV
             refine wp_region_quiet_lit (by kernel_rfl) (by kernel_rfl) ?_
             try simp only [List.append_eq,List.cons_append,List.nil_append]
             repeat (go_big_quiet_step ((go_at_call 116;exact t.out _)))
             refine wpQuiet_nil ?_
             intro _ f
             obtain⟨g,a⟩:=f
             subst a
             go_wp2_with fail
             refine wp_region_quiet_lit (by kernel_rfl) (by kernel_rfl) ?_
             try simp only [List.append_eq,List.cons_append,List.nil_append]
             repeat (go_big_quiet_step (fail))
             refine wpQuiet_nil ?_
             intro _ f
             obtain⟨av,a⟩:=f
             subst a
             go_wp2_with fail
             go_ret
             exact⟨Zd C.out.symm,below_drewN (below_drewN (Zb HB.out a8.out) _) _⟩
           · have r:0<=ZC lo x:=by simpa using hfz
             obtain⟨za,zb,zc⟩:=Zab r
             obtain⟨lb,M,rfl,an,ah⟩:=ZaV.seg a3.out (by omega)
             obtain⟨-,qa,qc,H,ap⟩:=ah.at (i:=ZD lo x) za
             have bc:=ai.out.2 (ZD lo x)
             have u:Hid (∀k m,Calls Tryz.prog 117 #[.slice qa (mat lo (ZD lo x)).length qc,.slice pa xa.length pc] ((V.drewN k).drewN m) fun e z=>e=.returned (.bool (decide (mat lo (ZD lo x)=xa)))/\∃m',z=(V.drewN k).drewN m'):=fun k m=>by
              refine (ZlX qa pa qc pc (mat lo (ZD lo x)) xa ((V.drewN k).drewN m) (Zy.drewN (Zy.drewN ap k) m) (Zy.drewN (Zy.drewN Z.out k) m) (by omega)).mono ?_
              rintro e z ⟨he,m',hm⟩
              exact⟨he,m+m',by rw [hm];simp [Nat.add_assoc]⟩
             have C:Hid (decide (mat lo (ZD lo x)=xa)=false->Zap d ts=false):=fun h=>G.out (I.out (by rcases e:ZaT lo (ZJ c i) with _ | _;rfl;have:=A.out.1 e;rw [decide_eq_false_iff_not] at h;exact absurd this.2 h))
             have U:Hid (decide (mat lo (ZD lo x)=xa)=true->ZaT lo (ZJ c i)=true):=fun h=>A.out.2 ⟨r,of_decide_eq_true h⟩
             have au:ZC lo x=(ZD lo x:Nat):=zb.symm
             rw [au] at t
             have bs:(0:Int)<=(ZD lo x:Int):=Int.natCast_nonneg _
             have be:((ZD lo x:Nat):Int)<(lo.length:Int):=by omega
             have aT:¬((ZD lo x:Nat):Int)<0:=by omega
             have b4:decide (((ZD lo x:Nat):Int)<0)=false:=decide_eq_false aT
             clear hfz r A G I zb zc au ah ap
             rcases hsm:decide (mat lo (ZD lo x)=xa) with _ | _
             · rw [hsm] at u
               have a1:=Za (C.out hsm)
               clear hsm C U
               generalize (mat lo (ZD lo x)).length=ql at *
               generalize ZD lo x=j at *
               go_wp2_with fail
               clear hV
               refine wp_region_quiet_lit (by kernel_rfl) (by kernel_rfl) ?_
               try simp only [List.append_eq,List.cons_append,List.nil_append]
               repeat (go_big_quiet_step ((go_at_call 116;exact t.out _)))
               refine wpQuiet_nil ?_
               intro _ f
               obtain⟨g,a⟩:=f
               subst a
               have a4:=Za (u.out g)
               have a0:Hid (Below R.heap.size R (V.drewN g)):=below_drewN a8.out g
               replace y0:(V.drewN g).cell? ⟨E.heap.size,0,none⟩=some (.int .i64 x):=y0
               replace y1:(V.drewN g).cell? ⟨E.heap.size,1,none⟩=some (.slice pa xa.length pc):=y1
               replace J:(V.drewN g).cell? ⟨w.heap.size,1,none⟩=some (.slice (some ⟨b,v,none⟩) 4 cw):=J
               replace P:(V.drewN g).cell? ⟨b,v+p*2,none⟩=some (.slice (some ⟨lb,M,none⟩) lo.length K):=P
               replace H:(V.drewN g).cell? ⟨lb,M+j*2+1,none⟩=some (.slice qa ql qc):=H
               generalize V.drewN g=V2 at *
               clear u t a3 Z an
               go_wp2_with fail
               refine wp_region_quiet_lit (by kernel_rfl) (by kernel_rfl) ?_
               try simp only [List.append_eq,List.cons_append,List.nil_append]
               repeat (go_big_quiet_step ((go_at_call 117;exact a4.out _)))
               refine wpQuiet_nil ?_
               intro _ f
               obtain⟨av,a⟩:=f
               subst a
               go_wp2_with fail
               go_ret
               exact⟨Zd a1.out.symm,below_drewN (Zb HB.out a0.out) _⟩
             · rw [hsm] at u
               have a1:=Za (U.out hsm)
               clear hsm C U
               generalize (mat lo (ZD lo x)).length=ql at *
               generalize ZD lo x=j at *
               go_wp2_with fail
               clear hV
               refine wp_region_quiet_lit (by kernel_rfl) (by kernel_rfl) ?_
               try simp only [List.append_eq,List.cons_append,List.nil_append]
               repeat (go_big_quiet_step ((go_at_call 116;exact t.out _)))
               refine wpQuiet_nil ?_
               intro _ f
               obtain⟨g,a⟩:=f
               subst a
               have a4:=Za (u.out g)
               have a0:Hid (Below R.heap.size R (V.drewN g)):=below_drewN a8.out g
               replace y0:(V.drewN g).cell? ⟨E.heap.size,0,none⟩=some (.int .i64 x):=y0
               replace y1:(V.drewN g).cell? ⟨E.heap.size,1,none⟩=some (.slice pa xa.length pc):=y1
               replace J:(V.drewN g).cell? ⟨w.heap.size,1,none⟩=some (.slice (some ⟨b,v,none⟩) 4 cw):=J
               replace P:(V.drewN g).cell? ⟨b,v+p*2,none⟩=some (.slice (some ⟨lb,M,none⟩) lo.length K):=P
               replace H:(V.drewN g).cell? ⟨lb,M+j*2+1,none⟩=some (.slice qa ql qc):=H
               generalize V.drewN g=V2 at *
               clear u t a3 Z an
               go_wp2_with fail
               refine wp_region_quiet_lit (by kernel_rfl) (by kernel_rfl) ?_
               try simp only [List.append_eq,List.cons_append,List.nil_append]
               repeat (go_big_quiet_step ((go_at_call 117;exact a4.out _)))
               refine wpQuiet_nil ?_
               intro _ f
               obtain⟨av,a⟩:=f
               subst a
               go_wp2_with fail
               go_roundw
               case rel=>exact⟨i+1,by omega,fun h=>by omega,by have:=q.out;go_num,fun j hj=>by
                rw [aL.out]
                rcases Nat.lt_or_ge j i with h | h
                · exact Y.out j h
                · rw [show j=i by omega];exact a1.out,below_drewN a0.out _⟩
               case measure=>have:=q.out;simp [intOf];omega
         · have aG:¬((n:Int) > 0):=by omega
           have a5:Hid (Zbr ts n=true):=Zdr ag.out (fun h=>absurd h hn1)
           clear hz y o
           go_wp2_with fail
           go_roundg (4-(n+1))
           case rel=>exact⟨n+1,by omega,by omega,by go_num,fun j hj=>by
            rcases Nat.lt_or_ge j n with h | h
            · exact HA.out j h
            · rw [show j=n by omega];exact a5.out,X.out⟩
           case measure=>omega
       · have ae:¬(i:Int)<(c.length:Int):=by omega
         obtain rfl:i=c.length:=by omega
         have a5:Hid (Zbr ts n=true):=Zdr ag.out (fun h=>by rw [O.out];exact ZeE Y.out)
         clear hz y o
         go_wp2_with fail
         go_roundg (4-(n+1))
         case rel=>exact⟨n+1,by omega,by omega,by go_num,fun j hj=>by
          rcases Nat.lt_or_ge j n with h | h
          · exact HA.out j h
          · rw [show j=n by omega];exact a5.out,X.out⟩
         case measure=>omega
  · have aq:¬(n:Int)<4:=by omega
    obtain rfl:n=4:=by omega
    have HV:=Za (ZiL aM.out l.out HA.out)
    clear D
    go_wp2_with fail
    go_ret
    exact⟨Zd HV.out.symm,Zb HB.out HL.out⟩
theorem Znq(s:Bool)(aw:Option Addr)(cw:Nat)(d:Int)(ts:List Wb)(w:World)(hv:Zp s w aw ts)(hsm:Z1 ts):
 Calls Tryz.prog 115 #[.agg #[.int .i64 d,.slice aw ts.length cw]] w fun e w'=>e=.returned (.bool (Zap d ts))/\Below w.heap.size w w':=by
 rcases hin:inR d 0 1000002 with _ | _
 · have b:=Za (fun W=>ZcQ d W)
   rw [hin] at b
   have g:=Za (ZgP (ts:=ts) hin)
   have c:Below w.heap.size w (w.alloc (.cells #[.int .i64 d,.slice aw ts.length cw] 39)):=(Below.refl _ _).alloc (Nat.le_refl _) _
   have f:=Za c
   clear hin hv c
   go_enter Tryz.func115,Tryz.ntmps115
   go_wp2_with fail
   refine (b.out _).mono ?_
   rintro e i ⟨rfl,a⟩
   subst a
   go_wp2_with fail
   go_ret
   exact⟨Zd g.out.symm,f.out⟩
 · by_cases hlen:ts.length=4
   · rw [hlen]
     exact ZiM s aw cw d ts w hv hsm hin hlen
   · have b:=Za (fun W=>ZcQ d W)
     rw [hin] at b
     have g:=Za (ZgQ (d:=d) hlen)
     have c:Below w.heap.size w (w.alloc (.cells #[.int .i64 d,.slice aw ts.length cw] 39)):=(Below.refl _ _).alloc (Nat.le_refl _) _
     have f:=Za c
     have h:((ts.length:Int) !=4)=true:=by simp;omega
     clear hin hv c hlen
     go_enter Tryz.func115,Tryz.ntmps115
     go_wp2_with fail
     refine (b.out _).mono ?_
     rintro e i ⟨rfl,a⟩
     subst a
     go_wp2_with fail
     go_ret
     exact⟨Zd g.out.symm,f.out⟩
theorem ZdM{d:Int}{ts:List Wb}(h:Zap d ts=true):ts.length=4/\∀n,n<4->Zbr ts n=true:=by
 simp only [Zap,Bool.and_eq_true,List.all_eq_true,List.mem_range,decide_eq_true_eq] at h
 exact⟨h.2.1,h.2.2⟩
theorem Zd2{d:Int}{ts:List Wb}(h:Zap d ts=true){n:Nat}(hn:n<4):Zax (Zi ts n).1 (Zi ts n).2=true:=ZcT ((ZdM h).2 n hn)
theorem ZoE(B:Nat)(am al ao:Option Addr)(cm cl cap:Nat)(ms:List Mk)(ls:List (List Int))(m:Mk)(w:World)(hI:Zac w B am cm ms al cl ls)(hb:Zt ms=true)(hv:Zy w ao m.2)(hsm:ZL ms):
 Calls Tryz.prog 155 #[.agg #[.int .i64 m.1,.slice ao m.2.length cap],.pointer (some ⟨B,0,none⟩)] w fun e w'=>e=.returned (.bool (!ZaT ms m))/\Below w.heap.size w w':=by
 obtain⟨W,l⟩:∃W,w.alloc (.cells #[.int .i64 m.1,.slice ao m.2.length cap] 161)=W:=⟨_,rfl⟩
 have y:=balZ l
 have A:W.cell? ⟨w.heap.size,0,none⟩=some (.int .i64 m.1):=by rw [<-l];simp
 have F:W.cell? ⟨w.heap.size,1,none⟩=some (.slice ao m.2.length cap):=by rw [<-l];simp
 have q:=altZ l
 have b:=hI.below y
 have O:=b.c0
 have N:=b.c1
 have x:=Za (Zja am al cm ls.length cl ms m.1 W b.mv hb)
 have HI:=Za b
 have P:=Za y
 have HV:=Za (hv.next y)
 have f:Hid (ZaT ms m=true↔0<=ZC ms m.1/\mat ms (ZD ms m.1)=m.2):=Zdn
 have H:=Za hsm.2
 have Q:=Za hb
 clear hI b y hv hsm
 rcases hfz:decide (0<=ZC ms m.1) with _ | _
 · have a:¬0<=ZC ms m.1:=by simpa using hfz
   have K:Hid (ZaT ms m=false):=by show _=_;rcases e:ZaT ms m with _ | _;rfl;exact absurd (f.out.1 e).1 a
   rw [hfz] at x
   rw [K.out]
   clear hfz a hb f K
   generalize plc m.1 ms=j at *
   go_enter Tryz.func155,Tryz.ntmps155
   go_wp2_with fail
   refine x.out.mono ?_
   rintro e z ⟨rfl,g⟩
   have E:=Za (Zb P.out g)
   clear g l A F O N
   go_wp2_with fail
   refine wp_region_quiet_lit (by kernel_rfl) (by kernel_rfl) ?_
   try simp only [List.append_eq,List.cons_append,List.nil_append]
   repeat (go_big_quiet_step (fail))
   refine wpQuiet_nil ?_
   intro _ k
   obtain⟨S,c⟩:=k
   subst c
   go_wp2_with fail
   go_ret
   exact⟨rfl,below_drewN E.out _⟩
 · have a:0<=ZC ms m.1:=by simpa using hfz
   obtain⟨za,T,Z⟩:=Zab a
   have s:=Zg4 hb a
   rw [hfz,s] at x
   have X:(0:Int)<=((ZD ms m.1:Nat):Int):=Int.natCast_nonneg _
   have Y:((ZD ms m.1:Nat):Int)<(ms.length:Int):=by omega
   have J:Hid (ZaT ms m=decide (mat ms (ZD ms m.1)=m.2)):=by
    show _=_
    rw [Bool.eq_iff_iff,f.out,decide_eq_true_eq]
    exact⟨fun h=>h.2,fun h=>⟨a,h⟩⟩
   rw [J.out]
   clear hfz a f J hb T Z s
   generalize ZD ms m.1=j at *
   obtain⟨r,G⟩:∃r,decide (mat ms j=m.2)=r:=⟨_,rfl⟩
   rw [G]
   have D:=Za G
   clear G
   go_enter Tryz.func155,Tryz.ntmps155
   go_wp2_with fail
   refine x.out.mono ?_
   rintro e z ⟨rfl,g⟩
   have d:=HI.out.below g
   replace O:=d.c0
   replace N:=d.c1
   replace A:=(g.cell (p:=⟨w.heap.size,0,none⟩) q).trans A
   replace F:=(g.cell (p:=⟨w.heap.size,1,none⟩) q).trans F
   obtain⟨mb,mo,rfl,a2,v⟩:=ZaV.seg d.mv (by omega)
   obtain⟨-,L,M,U,o⟩:=v.at (i:=j) za
   have I:=Za (HV.out.next g)
   have t:Hid (∀n,Calls Tryz.prog 157 #[.slice L (mat ms j).length M,.slice ao m.2.length cap] (z.drewN n) fun e u=>e=.returned (.bool (decide (mat ms j=m.2)))/\∃C,u=z.drewN C):=fun n=>by
    refine (jeqS L ao M cap (mat ms j) m.2 (z.drewN n) (Zy.drewN o n) (Zy.drewN I.out n) (H.out j)).mono ?_
    rintro e u ⟨R,C,V⟩
    exact⟨R,n+C,by rw [V];simp⟩
   have E:=Za (Zb P.out g)
   clear g l d v o x
   rw [D.out] at t
   generalize (mat ms j).length=ql at *
   go_wp2_with fail
   refine wp_region_quiet_lit (by kernel_rfl) (by kernel_rfl) ?_
   try simp only [List.append_eq,List.cons_append,List.nil_append]
   repeat (go_big_quiet_step ((go_at_call 157;exact t.out _)))
   refine wpQuiet_nil ?_
   intro _ k
   obtain⟨S,c⟩:=k
   subst c
   go_wp2_with fail
   go_ret
   exact⟨rfl,below_drewN E.out _⟩
theorem ZpO(B:Nat)(am al ao:Option Addr)(cm cl cap:Nat)(ms:List Mk)(ls:List (List Int))(hi:List Mk)(w:World)(hI:Zac w B am cm ms al cl ls)(hb:Zt ms=true)(hsm:ZL ms)(hv:Zo w ao hi)(hsh:ZL hi):
 Calls Tryz.prog 154 #[.slice ao hi.length cap,.func (.func 155) #[] #[.pointer (some ⟨B,0,none⟩)]] w fun e w'=>(∃r:Int,e=.returned (.int .i64 r)/\decide (0<=r)=!ZaR ms hi)/\Below w.heap.size w w':=by
 have E:Hid (∀W k a c,Below w.heap.size w W->Zy W a (mat hi k)->Calls Tryz.prog 155 #[.agg #[.int .i64 (mid hi k),.slice a (mat hi k).length c],.pointer (some ⟨B,0,none⟩)] W fun e w'=>e=.returned (.bool (!ZaT ms (ZJ hi k)))/\Below W.heap.size W w'):=fun W k a c L p=>
  ZoE B am al a cm cl c ms ls (ZJ hi k) W (hI.below L) hb p hsm
 have D:=Za hv
 have F:=hsh.1
 clear hI hb hv hsm hsh
 go_enter Tryz.func154,Tryz.ntmps154
 go_wp2_with fail
 go_loopw [8] (fun i wr=>∃k:Nat,k<=hi.length/\i=.int .i64 k/\(∀j,j<k->ZaT ms (ZJ hi j)=true)/\Below w.heap.size w wr) (fun i _=>hi.length-(intOf i).toNat)
 case atStart=>exact⟨0,Nat.zero_le _,rfl,fun j t=>by omega,Below.refl _ _⟩
 case round=>
  obtain⟨k,G,rfl,d,L⟩:=hrel
  have q:=Za d
  have o:=Za L
  have g:=D.out.next L
  clear d L
  by_cases hlt:k<hi.length
  · obtain⟨b,C,rfl,hb,s⟩:=ZaV.seg g (by omega)
    obtain⟨c0,u,A,c1,m⟩:=s.at (i:=k) hlt
    have n:=Za (E.out wr k u A o.out m)
    clear s g m
    rcases he:ZaT ms (ZJ hi k) with _ | _
    · have v:=Za (Zgb hlt he)
      rw [he] at n
      clear he
      generalize mid hi k=x at *
      generalize (mat hi k).length=xl at *
      go_wp2_with fail
      refine n.out.mono ?_
      rintro e z ⟨rfl,l⟩
      have f:=Za (Zb o.out l)
      clear l
      go_wp2_with fail
      go_ret
      exact⟨⟨(k:Int),rfl,by rw [v.out];simp⟩,f.out⟩
    · rw [he] at n
      have y:=Za he
      clear he
      generalize mid hi k=x at *
      generalize (mat hi k).length=xl at *
      go_wp2_with fail
      refine n.out.mono ?_
      rintro e z ⟨rfl,l⟩
      have f:=Za (Zb o.out l)
      clear l
      go_wp2_with fail
      go_roundw
      case rel=>exact⟨k+1,by omega,by go_num,fun j t=>by
       rcases Nat.lt_or_ge j k with h | h
       · exact q.out j h
       · rw [show j=k by omega];exact y.out,f.out⟩
      case measure=>simp [intOf];omega
  · go_wp2_with fail
    go_ret
    obtain rfl:k=hi.length:=by omega
    exact⟨⟨-1,rfl,by rw [ZeE q.out];rfl⟩,o.out⟩
theorem ZoF(B:Nat)(am al ao:Option Addr)(cm cl cap:Nat)(ms:List Mk)(ls:List (List Int))(hi:List Mk)(w:World)(hI:Zac w B am cm ms al cl ls)(hb:Zt ms=true)(hsm:ZL ms)(hv:Zo w ao hi)(hsh:ZL hi):
 Calls Tryz.prog 111 #[.slice ao hi.length cap,.func (.func 155) #[] #[.pointer (some ⟨B,0,none⟩)]] w fun e w'=>e=.returned (.bool (!ZaR ms hi))/\Below w.heap.size w w':=by
 have d:=Za (ZpO B am al ao cm cl cap ms ls hi w hI hb hsm hv hsh)
 clear hv hI
 go_enter Tryz.func111,Tryz.ntmps111
 go_wp2_with fail
 refine d.out.mono ?_
 rintro e f ⟨⟨r,rfl,c⟩,b⟩
 have a:=Za b
 clear b
 go_wp2_with fail
 go_ret
 exact⟨Zd (by rw [<-c]),a.out⟩
theorem Znu(am al am' al':Option Addr)(cm cl cm' cl' nl':Nat)(ms:List Mk)(ls:List (List Int))(hi:List Mk)(w:World)(hm:Zo w am ms)(hl:ZS w al ls)(hb:Zt ms=true)(hsm:ZL ms)(hv:Zo w am' hi)(hsh:ZL hi):
 Calls Tryz.prog 113 #[.agg #[.slice am ms.length cm,.slice al ls.length cl],.agg #[.slice am' hi.length cm',.slice al' nl' cl']] w fun e w'=>e=.returned (.bool (ZaR ms hi))/\Below w.heap.size w w':=by
 obtain⟨c,a⟩:∃W,w.alloc (.cells #[.slice am ms.length cm,.slice al ls.length cl] 158)=W:=⟨_,rfl⟩
 have d:=balZ a
 have f:Zac c w.heap.size am cm ms al cl ls:=by rw [<-a];exact Zac.box hm hl
 obtain⟨W,h⟩:∃W,c.alloc (.cells #[.slice am' hi.length cm',.slice al' nl' cl'] 158)=W:=⟨_,rfl⟩
 have b:=balZ h
 have l:W.cell? ⟨c.heap.size,0,none⟩=some (.slice am' hi.length cm'):=by rw [<-h];simp
 have i:=Za (Zb d b)
 have k:=Za (ZoF w.heap.size am al am' cm cl cm' ms ls hi W (f.below b) hb hsm (hv.next i.out) hsh)
 clear hm hl d f b hv hb hsm hsh
 generalize ZaR ms hi=r at *
 go_enter Tryz.func113,Tryz.ntmps113
 go_wp2_with fail
 refine k.out.mono ?_
 rintro e m ⟨rfl,j⟩
 have g:=Za (Zb i.out j)
 clear j h a
 go_wp2_with fail
 go_ret
 exact⟨by simp,g.out⟩
theorem ZiN(aw:Option Addr)(cw:Nat)(d:Int)(ts:List Wb)(w:World)(hv:Zp true w aw ts)(hsm:Z1 ts)(hin:inR d 0 1000002=true)(hlen:ts.length=4):
 Calls Tryz.prog 110 #[.agg #[.int .i64 d,.slice aw 4 cw]] w fun e w'=>e=.returned (.bool (Zap d ts))/\Below w.heap.size w w':=by
 obtain⟨W,hW⟩:∃W,w.alloc (.cells #[.int .i64 d,.slice aw 4 cw] 39)=W:=⟨_,rfl⟩
 have hB:=balZ hW
 have hI:Zgd true W w.heap.size d aw cw ts:=by rw [<-hW,<-hlen];exact Zgd.box hv
 have HD:=Za (ZcR d W)
 rw [hin] at HD
 have k0:=hI.c0
 have U:=hI.c1
 rw [hlen] at U
 have HB:=Za hB
 have HI:=Za hI
 have t:=Za hsm.2
 have q:=Za hlen
 have ak:=Za hin
 clear hv hsm hB hI hin hlen
 go_enter Tryz.func110,Tryz.ntmps110
 go_wp2_with fail
 refine HD.out.mono ?_
 rintro e w1 ⟨rfl,ah⟩
 subst ah
 go_wp2_with fail
 clear k0 HD U
 go_loopw [18] (fun nv wr=>∃n:Nat,n<=4/\nv=.int .i64 n/\(∀j,j<n->Zbr ts j=true)/\Below w1.heap.size w1 wr) (fun nv _=>4-(intOf nv).toNat)
 case atStart=>exact⟨0,by omega,rfl,fun j hj=>by omega,Below.refl _ _⟩
 case round=>
  obtain⟨n,hn,rfl,H,L⟩:=hrel
  have HA:=Za H
  have HL:=Za L
  have s:=HI.out.below L
  clear H L
  by_cases hlt:n<4
  · have a9:(n:Int)<4:=by omega
    have aP:=n0Z n
    obtain⟨b,k,x,v,u,y,rfl,hb,c0,c1,hm,hc,J⟩:=s.web (n:=n) (by rw [q.out];exact hlt)
    have U:=s.c1
    rw [q.out] at U
    obtain⟨V,N⟩:∃V,wr.alloc (.cells #[.slice x (Zi ts n).1.length v,.slice u (Zi ts n).2.length y] 158)=V:=⟨_,rfl⟩
    have X:=balZ N
    have o:=altZ N
    have F:V.cell? ⟨wr.heap.size,0,none⟩=some (.slice x (Zi ts n).1.length v):=by rw [<-N];simp
    have I:V.cell? ⟨wr.heap.size,1,none⟩=some (.slice u (Zi ts n).2.length y):=by rw [<-N];simp
    have aj:=s.lt
    have B:=(X.cell (p:=⟨w.heap.size,1,none⟩) aj).trans U
    have M:=Za (And.intro (hm.next X) (hc.next X))
    have G:Hid (∀a,Below V.heap.size V a->Calls Tryz.prog 153 #[.agg #[.slice x (Zi ts n).1.length v,.slice u (Zi ts n).2.length y]] a fun e w'=>e=.returned (.bool (Zax (Zi ts n).1 (Zi ts n).2))/\Below a.heap.size a w'):=fun a g=>
     ZhX x v (Zi ts n).1 u y (Zi ts n).2 a (M.out.1.next g) (M.out.2.next g) (t.out n).1 (t.out n).2 (J rfl).1 (J rfl).2
    have T:=Za (Zb HL.out X)
    obtain⟨Y,R⟩:∃Y,Y=wr.heap.size:=⟨_,rfl⟩
    have a4:=Za (s.below X)
    clear hm hc s X U
    have aI:=Za (And.intro (t.out n).1 (t.out n).2)
    rw [<-R] at o F I
    rcases hwb:Zax (Zi ts n).1 (Zi ts n).2 with _ | _
    · rw [hwb] at G
      have HV:=Za (Zfd (d:=d) hlt (ZgR hwb))
      have c:Hid (∀a,Below V.heap.size V a->a.cell? ⟨Y,0,none⟩=some (.slice x (Zi ts n).1.length v)/\a.cell? ⟨Y,1,none⟩=some (.slice u (Zi ts n).2.length y)):=fun a g=>⟨(g.cell (p:=⟨Y,0,none⟩) o).trans F,(g.cell (p:=⟨Y,1,none⟩) o).trans I⟩
      clear hwb
      generalize (Zi ts n).1.length=l1 at *
      generalize (Zi ts n).2.length=l2 at *
      go_wp2_with fail
      rw [<-R]
      clear N c0 c1 B R
      refine Zl (S:=(fun w'=>w'.cell? ⟨Y,0,none⟩=some (.slice x l1 v)/\w'.cell? ⟨Y,1,none⟩=some (.slice u l2 y))) (fuel:=17) [0] (by kernel_rfl) (by kernel_rfl) (by kernel_rfl) (by kernel_rfl) (c.out _ ((Below.refl V.heap.size V).drew)) (fun _=>?_)
      iterate 1
       refine⟨_,rfl,?_⟩
       first
        | refine⟨undef,Or.inr ⟨by rfl,rfl⟩,?_⟩
        | (apply Exists.intro
           refine⟨Or.inl ⟨by rfl,fun w' m=>?_⟩,?_⟩
           · first
             | (go_simp;done)
             | (go_simp;with_reducible rfl))
       simp only [Act.put,List.getElem_toArray,List.getElem_cons_zero,List.setIfInBounds_toArray,List.set_cons_zero,List.set_cons_succ]
      refine Zc 1 (by kernel_rfl) rfl (fun K i=>?_)
      go_simp
      refine (G.out _ ((Below.refl V.heap.size V).drew)).mono ?_
      rintro e w2 ⟨rfl,l⟩
      have f:Below V.heap.size V w2:=Below.trans ((Below.refl V.heap.size V).drew) l
      refine i.out _ _ (c.out _ f) (fun _=>?_)
      clear i K l
      refine Zz 4 [2,3,4,5,6,7,8,9,10,11,12,13] (by kernel_rfl) (by kernel_rfl) (by kernel_rfl) (c.out _ f) ?_
      iterate 12
       refine⟨_,rfl,?_⟩
       first
        | refine⟨undef,Or.inr ⟨by rfl,rfl⟩,?_⟩
        | (apply Exists.intro
           refine⟨Or.inl ⟨by rfl,fun w' m=>?_⟩,?_⟩
           · first
             | (go_simp;done)
             | (go_simp;with_reducible rfl))
       simp only [Act.put,tkgZ]
      refine Zc 14 (by kernel_rfl) rfl (fun K i=>?_)
      go_simp
      refine i.out _ _ (c.out _ f) (fun _=>?_)
      clear i K
      refine ZB [15,16,17] (by kernel_rfl) (by kernel_rfl) (by kernel_rfl) (by kernel_rfl) (c.out _ f) ?_
      iterate 3
       refine⟨_,rfl,?_⟩
       first
        | refine⟨undef,Or.inr ⟨by rfl,rfl⟩,?_⟩
        | (apply Exists.intro
           refine⟨Or.inl ⟨by rfl,fun w' m=>?_⟩,?_⟩
           · first
             | (go_simp;done)
             | (go_simp;with_reducible rfl))
       simp only [Act.put,tkgZ]
      refine NoPanic.normal ?_
      refine NoPanic.normal ?_
      have Z:=Za (Zb HB.out (Zb T.out f))
      clear f G c F I
      go_wp2_with fail
      go_ret
      exact⟨Zd HV.out.symm,Z.out⟩
    · rw [hwb] at G
      have a1:=Za hwb
      clear hwb
      rcases Nat.eq_zero_or_pos n with hz | hpos
      · have z:¬((n:Int) > 0):=by omega
        have a7:decide ((n:Int) > 0)=false:=decide_eq_false z
        have a6:decide (0<(n:Int))=false:=decide_eq_false z
        have aa:decide (0<n)=false:=decide_eq_false (by omega)
        have P:Hid (Zbr ts n=true):=Zdr a1.out (fun h=>by omega)
        have c:Hid (∀a,Below V.heap.size V a->a.cell? ⟨Y,0,none⟩=some (.slice x (Zi ts n).1.length v)/\a.cell? ⟨Y,1,none⟩=some (.slice u (Zi ts n).2.length y)):=fun a g=>⟨(g.cell (p:=⟨Y,0,none⟩) o).trans F,(g.cell (p:=⟨Y,1,none⟩) o).trans I⟩
        generalize (Zi ts n).1.length=l1 at *
        generalize (Zi ts n).2.length=l2 at *
        clear hz
        go_wp2_with fail
        rw [<-R]
        clear N c0 c1 B R
        refine Zl (S:=(fun w'=>w'.cell? ⟨Y,0,none⟩=some (.slice x l1 v)/\w'.cell? ⟨Y,1,none⟩=some (.slice u l2 y))) (fuel:=17) [0] (by kernel_rfl) (by kernel_rfl) (by kernel_rfl) (by kernel_rfl) (c.out _ ((Below.refl V.heap.size V).drew)) (fun _=>?_)
        iterate 1
         refine⟨_,rfl,?_⟩
         first
          | refine⟨undef,Or.inr ⟨by rfl,rfl⟩,?_⟩
          | (apply Exists.intro
             refine⟨Or.inl ⟨by rfl,fun w' m=>?_⟩,?_⟩
             · first
               | (go_simp;done)
               | (go_simp;with_reducible rfl))
         simp only [Act.put,List.getElem_toArray,List.getElem_cons_zero,List.setIfInBounds_toArray,List.set_cons_zero,List.set_cons_succ]
        refine Zc 1 (by kernel_rfl) rfl (fun K i=>?_)
        go_simp
        refine (G.out _ ((Below.refl V.heap.size V).drew)).mono ?_
        rintro e w2 ⟨rfl,l⟩
        have f:Below V.heap.size V w2:=Below.trans ((Below.refl V.heap.size V).drew) l
        refine i.out _ _ (c.out _ f) (fun _=>?_)
        clear i K l
        refine Zz 4 [2,3,4,5,6,7,8,9,10,11,12,13] (by kernel_rfl) (by kernel_rfl) (by kernel_rfl) (c.out _ f) ?_
        iterate 12
         refine⟨_,rfl,?_⟩
         first
          | refine⟨undef,Or.inr ⟨by rfl,rfl⟩,?_⟩
          | (apply Exists.intro
             refine⟨Or.inl ⟨by rfl,fun w' m=>?_⟩,?_⟩
             · first
               | (go_simp;done)
               | (go_simp;with_reducible rfl))
         simp only [Act.put,tkgZ]
        refine Zc 14 (by kernel_rfl) rfl (fun K i=>?_)
        go_simp
        refine i.out _ _ (c.out _ f) (fun _=>?_)
        clear i K
        refine ZB [15,16,17] (by kernel_rfl) (by kernel_rfl) (by kernel_rfl) (by kernel_rfl) (c.out _ f) ?_
        iterate 3
         refine⟨_,rfl,?_⟩
         first
          | refine⟨undef,Or.inr ⟨by rfl,rfl⟩,?_⟩
          | (apply Exists.intro
             refine⟨Or.inl ⟨by rfl,fun w' m=>?_⟩,?_⟩
             · first
               | (go_simp;done)
               | (go_simp;with_reducible rfl))
         simp only [Act.put,tkgZ]
        refine NoPanic.normal ?_
        refine NoPanic.normal ?_
        have Z:=Za (Zb T.out f)
        clear f G c F I
        go_wp2_with fail
        go_roundw
        case rel=>exact⟨n+1,by omega,by go_num,fun j hj=>by
         rcases Nat.lt_or_ge j n with h | h
         · exact HA.out j h
         · rw [show j=n by omega];exact P.out,Z.out⟩
        case measure=>simp [intOf];omega
      · have z:(n:Int) > 0:=by omega
        have a7:decide ((n:Int) > 0)=true:=decide_eq_true z
        have a6:decide (0<(n:Int))=true:=decide_eq_true z
        have aa:decide (0<n)=true:=decide_eq_true hpos
        obtain⟨p,hp⟩:∃p,n-1=p:=⟨_,rfl⟩
        have aL:IntKind.i64.wrap ((n:Int)-1)=(p:Int):=by rw [IntWalk.i64_in _ ⟨by omega,by omega⟩];omega
        have aM:=n0Z p
        have aJ:(p:Int)<4:=by omega
        obtain⟨b3,ay,C,D,E,A,O,a2,e0,e1,a8,ad,-⟩:=a4.out.web (n:=p) (by rw [q.out];omega)
        injection O with O
        injection O with eb31 eb32
        subst eb31 eb32
        have av:=a4.out.lt
        have c:Hid (∀a,Below V.heap.size V a->a.cell? ⟨Y,0,none⟩=some (.slice x (Zi ts n).1.length v)/\a.cell? ⟨Y,1,none⟩=some (.slice u (Zi ts n).2.length y)/\a.cell? ⟨w.heap.size,1,none⟩=some (.slice (some ⟨b,k,none⟩) 4 cw)/\a.cell? ⟨b,k+p*2,none⟩=some (.slice C (Zi ts p).1.length D)/\a.cell? ⟨b,k+p*2+1,none⟩=some (.slice E (Zi ts p).2.length A)):=fun a g=>⟨(g.cell (p:=⟨Y,0,none⟩) o).trans F,(g.cell (p:=⟨Y,1,none⟩) o).trans I,(g.cell (p:=⟨w.heap.size,1,none⟩) av).trans B,(g.cell (p:=⟨b,k+p*2,none⟩) a2).trans e0,(g.cell (p:=⟨b,k+p*2+1,none⟩) a2).trans e1⟩
        have ao:Hid (Zt (Zi ts p).1=true):=ZY (ZcT (HA.out p (by omega)))
        have Q:Hid (∀a,Below V.heap.size V a->Calls Tryz.prog 113 #[.agg #[.slice C (Zi ts p).1.length D,.slice E (Zi ts p).2.length A],.agg #[.slice x (Zi ts n).1.length v,.slice u (Zi ts n).2.length y]] a fun e w'=>e=.returned (.bool (ZaR (Zi ts p).1 (Zi ts n).1))/\Below a.heap.size a w'):=fun a g=>
         Znu C E x u D A v y (Zi ts n).2.length (Zi ts p).1 (Zi ts p).2 (Zi ts n).1 a (a8.next g) (ad.next g) ao.out (t.out p).1 (M.out.1.next g) (t.out n).1
        have a3:Hid (ZaR (Zi ts p).1 (Zi ts n).1=true->Zbr ts n=true):=fun h=>Zdr a1.out (fun _=>by rw [hp];exact h)
        have ab:Hid (ZaR (Zi ts p).1 (Zi ts n).1=false->Zap d ts=false):=fun h=>Zfd hlt (Zgc hpos (by rw [hp];exact h))
        have aq:=F
        have ap:=I
        clear a8 ad
        obtain⟨r,hr⟩:∃r,ZaR (Zi ts p).1 (Zi ts n).1=r:=⟨_,rfl⟩
        rw [hr] at Q a3 ab
        clear hr
        generalize (Zi ts n).1.length=l1 at *
        generalize (Zi ts n).2.length=l2 at *
        generalize (Zi ts p).1.length=l3 at *
        generalize (Zi ts p).2.length=l4 at *
        clear aq ap
        go_wp2_with fail
        rw [<-R]
        clear N c0 c1 R hp
        refine Zl (S:=(fun w'=>w'.cell? ⟨Y,0,none⟩=some (.slice x l1 v)/\w'.cell? ⟨Y,1,none⟩=some (.slice u l2 y)/\w'.cell? ⟨w.heap.size,1,none⟩=some (.slice (some ⟨b,k,none⟩) 4 cw)/\w'.cell? ⟨b,k+p*2,none⟩=some (.slice C l3 D)/\w'.cell? ⟨b,k+p*2+1,none⟩=some (.slice E l4 A))) (fuel:=17) [0] (by kernel_rfl) (by kernel_rfl) (by kernel_rfl) (by kernel_rfl) (c.out _ ((Below.refl V.heap.size V).drew)) (fun _=>?_)
        iterate 1
         refine⟨_,rfl,?_⟩
         first
          | refine⟨undef,Or.inr ⟨by rfl,rfl⟩,?_⟩
          | (apply Exists.intro
             refine⟨Or.inl ⟨by rfl,fun w' m=>?_⟩,?_⟩
             · first
               | (go_simp;done)
               | (go_simp;with_reducible rfl))
         simp only [Act.put,List.getElem_toArray,List.getElem_cons_zero,List.setIfInBounds_toArray,List.set_cons_zero,List.set_cons_succ]
        refine Zc 1 (by kernel_rfl) rfl (fun K i=>?_)
        go_simp
        refine (G.out _ ((Below.refl V.heap.size V).drew)).mono ?_
        rintro e w2 ⟨rfl,l⟩
        have f:Below V.heap.size V w2:=Below.trans ((Below.refl V.heap.size V).drew) l
        refine i.out _ _ (c.out _ f) (fun _=>?_)
        clear i K l
        refine Zz 4 [2,3,4,5,6,7,8,9,10,11,12,13] (by kernel_rfl) (by kernel_rfl) (by kernel_rfl) (c.out _ f) ?_
        iterate 12
         refine⟨_,rfl,?_⟩
         first
          | refine⟨undef,Or.inr ⟨by rfl,rfl⟩,?_⟩
          | (apply Exists.intro
             refine⟨Or.inl ⟨by rfl,fun w' m=>?_⟩,?_⟩
             · first
               | (go_simp;done)
               | (go_simp;with_reducible rfl))
         simp only [Act.put,tkgZ]
        refine Zc 14 (by kernel_rfl) rfl (fun K i=>?_)
        go_simp
        refine (Q.out _ f).mono ?_
        rintro e w3 ⟨rfl,a5⟩
        have L3:Below V.heap.size V w3:=Zb f a5
        refine i.out _ _ (c.out _ L3) (fun _=>?_)
        clear i K a5
        refine ZB [15,16,17] (by kernel_rfl) (by kernel_rfl) (by kernel_rfl) (by kernel_rfl) (c.out _ L3) ?_
        iterate 3
         refine⟨_,rfl,?_⟩
         first
          | refine⟨undef,Or.inr ⟨by rfl,rfl⟩,?_⟩
          | (apply Exists.intro
             refine⟨Or.inl ⟨by rfl,fun w' m=>?_⟩,?_⟩
             · first
               | (go_simp;done)
               | (go_simp;with_reducible rfl))
         simp only [Act.put,tkgZ]
        refine NoPanic.normal ?_
        refine NoPanic.normal ?_
        have Z:=Za (Zb T.out L3)
        clear f L3 G c Q F I e0 e1 B
        cases r with
        | false=>
          have HV:=Za (ab.out rfl)
          go_wp2_with fail
          go_ret
          exact⟨Zd HV.out.symm,Zb HB.out Z.out⟩
        | true=>
          have P:=Za (a3.out rfl)
          go_wp2_with fail
          go_roundw
          case rel=>exact⟨n+1,by omega,by go_num,fun j hj=>by
           rcases Nat.lt_or_ge j n with h | h
           · exact HA.out j h
           · rw [show j=n by omega];exact P.out,Z.out⟩
          case measure=>simp [intOf];omega
  · have a9:¬(n:Int)<4:=by omega
    obtain rfl:n=4:=by omega
    have HV:=Za (ZiL ak.out q.out HA.out)
    clear s
    go_wp2_with fail
    go_ret
    exact⟨Zd HV.out.symm,Zb HB.out HL.out⟩
theorem Zh9(aw:Option Addr)(cw:Nat)(d:Int)(ts:List Wb)(w:World)(hv:Zp true w aw ts)(hsm:Z1 ts):
 Calls Tryz.prog 110 #[.agg #[.int .i64 d,.slice aw ts.length cw]] w fun e w'=>e=.returned (.bool (Zap d ts))/\Below w.heap.size w w':=by
 rcases hin:inR d 0 1000002 with _ | _
 · have b:=Za (fun W=>ZcR d W)
   rw [hin] at b
   have g:=Za (ZgP (ts:=ts) hin)
   have c:Below w.heap.size w (w.alloc (.cells #[.int .i64 d,.slice aw ts.length cw] 39)):=(Below.refl _ _).alloc (Nat.le_refl _) _
   have f:=Za c
   clear hin hv c
   go_enter Tryz.func110,Tryz.ntmps110
   go_wp2_with fail
   refine (b.out _).mono ?_
   rintro e i ⟨rfl,a⟩
   subst a
   go_wp2_with fail
   go_ret
   exact⟨Zd g.out.symm,f.out⟩
 · by_cases hlen:ts.length=4
   · rw [hlen]
     exact ZiN aw cw d ts w hv hsm hin hlen
   · have b:=Za (fun W=>ZcR d W)
     rw [hin] at b
     have g:=Za (ZgQ (d:=d) hlen)
     have c:Below w.heap.size w (w.alloc (.cells #[.int .i64 d,.slice aw ts.length cw] 39)):=(Below.refl _ _).alloc (Nat.le_refl _) _
     have f:=Za c
     have h:((ts.length:Int) !=4)=true:=by simp;omega
     clear hin hv c hlen
     go_enter Tryz.func110,Tryz.ntmps110
     go_wp2_with fail
     refine (b.out _).mono ?_
     rintro e i ⟨rfl,a⟩
     subst a
     go_wp2_with fail
     go_ret
     exact⟨Zd g.out.symm,f.out⟩
end Go.Proofs.YtilkaeclgmcolaaGreat
