import Derived.Test.YtaaagmgglolibaaGreatJRwZz
import Derived.Test.YtaaagmgglolibaaGreatFeHelpZz
import Derived.Test.YtaaagmgglolibaaGreatTwOkZz
import Derived.Test.YtaaagmgglolibaaGreatTwAskZz
import Derived.Test.YtaaagmgglolibaaGreatNearZz
import Derived.Test.YtaaagmgglolibaaGreatHM9Zz
set_option maxRecDepth 100000
set_option maxHeartbeats 4000000
namespace Go.Proofs.YtaaagmgglolibaaGreat
open Go Go.RowKit Go.Deep
end Go.Proofs.YtaaagmgglolibaaGreat
namespace Go.Proofs.YtaaagmgglolibaaGreat
open Go Go.RowKit
structure Z7(v:Bool)(w:World)(X:Nat)(am aw:Option Addr)(cm cw:Nat)(wd:Int)(ms:List Mk)(d:Int)(ts:List Wb)(nx:Int):Prop where
 lt:X<w.heap.size
 c0:w.cell? ⟨X,0,none⟩=some (.int .i64 wd)
 c1:w.cell? ⟨X,1,none⟩=some (.slice am ms.length cm)
 c2:w.cell? ⟨X,2,none⟩=some (.int .i64 d)
 c3:w.cell? ⟨X,3,none⟩=some (.slice aw ts.length cw)
 c4:w.cell? ⟨X,4,none⟩=some (.int .i64 nx)
 mv:Zq w am ms
 wv:Zz v w aw ts
theorem Z7.box{v:Bool}{w:World}{am aw:Option Addr}{cm cw:Nat}{wd:Int}{ms:List Mk}{d:Int}{ts:List Wb}{nx:Int}{t:TypeId}(hm:Zq w am ms)(hw:Zz v w aw ts):Z7 v (w.alloc (.cells #[.int .i64 wd,.slice am ms.length cm,.int .i64 d,.slice aw ts.length cw,.int .i64 nx] t)) w.heap.size am aw cm cw wd ms d ts nx:=
 ⟨by simp,by simp,by simp,by simp,by simp,by simp,hm.next ((Below.refl _ _).alloc (Nat.le_refl _) _),hw.next ((Below.refl _ _).alloc (Nat.le_refl _) _)⟩
theorem Z7.below{v:Bool}{w w':World}{X:Nat}{am aw:Option Addr}{cm cw:Nat}{wd:Int}{ms:List Mk}{d:Int}{ts:List Wb}{nx:Int}(h:Z7 v w X am aw cm cw wd ms d ts nx)(L:Below w.heap.size w w'):Z7 v w' X am aw cm cw wd ms d ts nx:=
 ⟨Nat.lt_of_lt_of_le h.lt L.size,(L.cell (p:=⟨X,0,none⟩) h.lt).trans h.c0,(L.cell (p:=⟨X,1,none⟩) h.lt).trans h.c1,(L.cell (p:=⟨X,2,none⟩) h.lt).trans h.c2,(L.cell (p:=⟨X,3,none⟩) h.lt).trans h.c3,(L.cell (p:=⟨X,4,none⟩) h.lt).trans h.c4,h.mv.next L,h.wv.next L⟩
theorem Zz.web{s:Bool}{w:World}{aw:Option Addr}{ts:List Wb}(h:Zz s w aw ts){n:Nat}(hn:n<ts.length):∃b off am cm al cl,aw=some ⟨b,off,none⟩/\b<w.heap.size/\w.cell? ⟨b,off+n*2,none⟩=some (.slice am (Zl ts n).1.length cm)/\w.cell? ⟨b,off+n*2+1,none⟩=some (.slice al (Zl ts n).2.length cl)/\Zq w am (Zl ts n).1/\Z8 w al (Zl ts n).2/\(s=true->(Zl ts n).1.length<=cm/\(Zl ts n).2.length<=cl):=by
 obtain⟨b,off,e,hb,hs⟩:=h.seg (by omega)
 obtain⟨am,cm,al,cl,h1,h2,h3,h4,h5⟩:=hs n hn
 exact⟨b,off,am,cm,al,cl,e,hb,h1,h2,h3,h4,h5⟩
def Z5(ms:List Mk)(ts:List Wb):Prop:=ZX ms/\ZaB ts/\Zg2 ms+ZkY ts<=1048576
theorem Ze{w:World}{q:Nat}{a b c d e:Value}{t:TypeId}(h:w.heap[q]? =some (.cells #[a,b,c,d,e] t)):w.cell? ⟨q,0,none⟩=some a/\w.cell? ⟨q,1,none⟩=some b/\w.cell? ⟨q,2,none⟩=some c/\w.cell? ⟨q,3,none⟩=some d/\w.cell? ⟨q,4,none⟩=some e/\(∀j,w.frozen? ⟨q,j,none⟩=false)/\q<w.heap.size:=by
 refine⟨by simp [World.cell?,h],by simp [World.cell?,h],by simp [World.cell?,h],by simp [World.cell?,h],by simp [World.cell?,h],fun j=>by simp [World.frozen?,h],?_⟩
 rcases Nat.lt_or_ge q w.heap.size with e | e
 · exact e
 · rw [Array.getElem?_eq_none e] at h;cases h
theorem Zco{w:World}{q:Nat}{a b c d e x:Value}{t:TypeId}(h:w.heap[q]? =some (.cells #[a,b,c,d,e] t)):(w.setCell ⟨q,1,none⟩ x).heap[q]? =some (.cells #[a,x,c,d,e] t):=by
 simp [World.setCell,Array.getElem?_modify,h]
theorem ZjO{w:World}{q:Nat}{a b c d e x y:Value}{t:TypeId}(h:w.heap[q]? =some (.cells #[a,b,c,d,e] t)):((w.setCell ⟨q,2,none⟩ x).setCell ⟨q,3,none⟩ y).heap[q]? =some (.cells #[a,b,x,y,e] t):=by
 simp [World.setCell,Array.getElem?_modify,h]
def grB(wd nx:Int)(m:Mk):Bool:=decide ((m.2.length:Int)=wd) && decide (m.1<nx)
def ZdA(wd nx:Int)(ms:List Mk):Bool:=ms.all (grB wd nx)
def stB(wd:Int)(ms:List Mk)(d:Int)(ts:List Wb)(nx:Int):Bool:=inR wd 1 4 && (Zn ms && (ZZ d ts && (inR nx 1 1000000 && (ZdA wd nx (Zl ts 0).1 && Zan (Zl ts 0).1 ms))))
theorem ZgW{wd nx:Int}{l:List Mk}{k:Nat}(hk:k<l.length)(h:grB wd nx (ZH l k)=false):ZdA wd nx l=false:=by
 rcases e:ZdA wd nx l with _ | _
 · rfl
 · rw [ZdA,List.all_eq_true] at e
   rw [e _ (ZdF hk)] at h
   cases h
theorem Zh6{wd nx:Int}{l:List Mk}(h:∀k,k<l.length->grB wd nx (ZH l k)=true):ZdA wd nx l=true:=by
 rw [ZdA,List.all_eq_true]
 intro m hm
 obtain⟨k,hk,rfl⟩:=List.getElem_of_mem hm
 have:=h k hk
 simpa [ZH,List.getD,hk] using this
theorem ZcS(v:Bool)(am aw:Option Addr)(cm cw:Nat)(wd:Int)(ms:List Mk)(d:Int)(ts:List Wb)(nx:Int)(w:World)(hm:Zq w am ms)(hw:Zz v w aw ts)(hsm:Z5 ms ts):
 Calls Tryz.prog 40 #[.agg #[.int .i64 wd,.slice am ms.length cm,.int .i64 d,.slice aw ts.length cw,.int .i64 nx]] w fun e w'=>e=.returned (.bool (stB wd ms d ts nx))/\Below w.heap.size w w':=by
 obtain⟨W,hW⟩:∃W,w.alloc (.cells #[.int .i64 wd,.slice am ms.length cm,.int .i64 d,.slice aw ts.length cw,.int .i64 nx] 52)=W:=⟨_,rfl⟩
 have hB:Below w.heap.size w W:=by rw [<-hW];exact (Below.refl _ _).alloc (Nat.le_refl _) _
 have hI:Z7 v W w.heap.size am aw cm cw wd ms d ts nx:=by rw [<-hW];exact Z7.box hm hw
 have HB:=Za hB
 have HI:=Za hI
 have k0:=hI.c0
 have HIN:=Za (sIn wd 1 4)
 have HIX:=Za (sIn nx 1 1000000)
 have HMK:=Za (fun (W':World) (L:Below W.heap.size W W')=>Zgv am cm ms W' (hI.below L).mv hsm.1)
 have HTW:=Za (fun (W':World) (L:Below W.heap.size W W')=>Zms v aw cw d ts W' (hI.below L).wv hsm.2.1)
 have HSM:=Za hsm
 have HTT:Hid (ZZ d ts=true->ts.length=4/\Zab (Zl ts 0).1 (Zl ts 0).2=true):=fun h=>by
  rw [ZZ,Bool.and_eq_true,Bool.and_eq_true,decide_eq_true_eq,List.all_eq_true] at h
  exact⟨h.2.1,ZcF (h.2.2 0 (by simp))⟩
 have HMM:Hid (Zn ms=true->ms.length<=60):=fun h=>ZA h
 obtain⟨b1,hb1⟩:∃b,inR wd 1 4=b:=⟨_,rfl⟩
 obtain⟨b2,hb2⟩:∃b,Zn ms=b:=⟨_,rfl⟩
 obtain⟨b3,hb3⟩:∃b,ZZ d ts=b:=⟨_,rfl⟩
 obtain⟨b4,hb4⟩:∃b,inR nx 1 1000000=b:=⟨_,rfl⟩
 have HV:Hid (stB wd ms d ts nx=(b1 && (b2 && (b3 && (b4 && (ZdA wd nx (Zl ts 0).1 && Zan (Zl ts 0).1 ms)))))):=by show _=_;rw [<-hb1,<-hb2,<-hb3,<-hb4];rfl
 rw [hb1] at HIN
 rw [hb2] at HMK HMM
 rw [hb3] at HTW HTT
 rw [hb4] at HIX
 clear hm hw hsm hB hI hb1 hb2 hb3 hb4
 go_enter Tryz.func40,Tryz.ntmps40
 go_wp2_with fail
 refine (HIN.out _).mono ?_
 rintro e w1 ⟨rfl,hw1⟩
 have hw2:=hw1.symm
 subst hw2
 cases b1 with
 | false=>
   go_wp2_with fail
   go_ret
   exact⟨Zg (by rw [HV.out];rfl),HB.out⟩
 | true=>
 have k1:=HI.out.c1
 go_wp2_with fail
 refine (HMK.out _ (Below.refl _ _)).mono ?_
 rintro e w1 ⟨rfl,n1,hw1⟩
 subst hw1
 have L1:Hid (Below W.heap.size W (W.drewN n1)):=below_drewN (Below.refl _ _) n1
 clear hW k0 k1
 cases b2 with
 | false=>
   go_wp2_with fail
   go_ret
   exact⟨Zg (by rw [HV.out];rfl),Zd HB.out L1.out⟩
 | true=>
 have c2:=(HI.out.below L1.out).c2
 have c3:=(HI.out.below L1.out).c3
 generalize W.drewN n1=W1 at *
 go_wp2_with fail
 refine (HTW.out _ L1.out).mono ?_
 rintro e w2 ⟨rfl,L2⟩
 have HL2:=Za (Zd L1.out L2)
 clear L2 L1 c2 c3
 cases b3 with
 | false=>
   go_wp2_with fail
   go_ret
   exact⟨Zg (by rw [HV.out];rfl),Zd HB.out HL2.out⟩
 | true=>
 have c4:=(HI.out.below HL2.out).c4
 go_wp2_with fail
 refine (HIX.out _).mono ?_
 rintro e w3 ⟨rfl,hw3⟩
 subst hw3
 cases b4 with
 | false=>
   go_wp2_with fail
   go_ret
   exact⟨Zg (by rw [HV.out];rfl),Zd HB.out HL2.out⟩
 | true=>
 have hI2:=HI.out.below HL2.out
 have HLEN:=Za (HTT.out (by trivial)).1
 have HWB:=Za (HTT.out (by trivial)).2
 obtain⟨b,off,gm,gc,al,cl,rfl,hb,q0,q1,hgm,-,-⟩:=hI2.wv.web (n:=0) (by rw [HLEN.out];omega)
 rw [Nat.zero_mul,Nat.add_zero] at q0 q1
 have c3:=hI2.c3
 rw [HLEN.out] at c3
 have HG60:=Za (ZA (ZJ HWB.out))
 have HM60:=Za (HMM.out (by trivial))
 have HGSM:=Za (HSM.out.2.1.2 0).1
 obtain⟨gs,hgs⟩:∃gs,(Zl ts 0).1=gs:=⟨_,rfl⟩
 rw [hgs] at HG60 HGSM HV q0 hgm
 have HGM:=Za hgm
 have HLX:=Za (Zd HB.out HL2.out)
 have HIW:=Za hI2
 clear c4 hI2 hgs hgm HMK HTW HTT HMM HIN HIX HI HB HL2 HWB
 go_wp2_with fail
 clear q0 q1 c3
 go_loopw [4] (fun iv wr=>∃i:Nat,i<=gs.length/\iv=.int .i64 i/\(∀j,j<i->grB wd nx (ZH gs j)=true)/\Below w3.heap.size w3 wr) (fun iv _=>gs.length-(intOf iv).toNat)
 case atStart=>exact⟨0,Nat.zero_le _,rfl,fun j hj=>by omega,Below.refl _ _⟩
 case round=>
  obtain⟨i,hi,rfl,hall,L⟩:=hrel
  have HA:=Za hall
  have HL:=Za L
  have hIr:=HIW.out.below L
  have hgr:=HGM.out.next L
  clear hall L
  by_cases hlt:i<gs.length
  · have h60:=HG60.out
    have hlti:(i:Int)<(gs.length:Int):=by omega
    have hi0:(0:Int)<=(i:Int):=Int.natCast_nonneg _
    obtain⟨mb,mo,rfl,hmb,hms⟩:=Zbi.seg hgr (by omega)
    obtain⟨cid,pa,pc,cat,-⟩:=hms.at (i:=i) hlt
    have e0:=hIr.c0
    have e4:=hIr.c4
    have HNO:=Za (fun h=>ZgW (wd:=wd) (nx:=nx) hlt h)
    have hpl:=HGSM.out.2 i
    have HGB:Hid (grB wd nx (ZH gs i)=(decide (((mat gs i).length:Int)=wd) && decide (mid gs i<nx))):=rfl
    clear hms hgr hIr
    generalize mid gs i=x at *
    generalize (mat gs i).length=xl at *
    by_cases hwd:(xl:Int)=wd
    · have hwb:((xl:Int) !=wd)=false:=by simp [hwd]
      rw [decide_eq_true hwd] at HGB
      by_cases hnx:x<nx
      · have hge:¬(x≥nx):=by omega
        rw [decide_eq_true hnx] at HGB
        go_wp2_with fail
        refine wp_region_quiet_lit (by kernel_rfl) (by kernel_rfl) ?_
        try simp only [List.append_eq,List.cons_append,List.nil_append]
        repeat (go_big_quiet_step (fail))
        refine wpQuiet_nil ?_
        intro _ hw'
        obtain⟨nq,hw''⟩:=hw'
        subst hw''
        go_wp2_with fail
        go_roundw
        case rel=>exact⟨i+1,by omega,by go_num,fun j hj=>by
         rcases Nat.lt_or_ge j i with h | h
         · exact HA.out j h
         · rw [show j=i by omega];exact HGB.out,below_drewN HL.out _⟩
        case measure=>simp [intOf];omega
      · have hge:x≥nx:=by omega
        rw [decide_eq_false hnx] at HGB
        have HVF:Hid (stB wd ms d ts nx=false):=by show _=_;rw [HV.out,HNO.out (HGB.out.trans rfl)];rfl
        clear HGB
        go_wp2_with fail
        refine wp_region_quiet_lit (by kernel_rfl) (by kernel_rfl) ?_
        try simp only [List.append_eq,List.cons_append,List.nil_append]
        repeat (go_big_quiet_step (fail))
        refine wpQuiet_nil ?_
        intro _ hw'
        obtain⟨nq,hw''⟩:=hw'
        subst hw''
        go_wp2_with fail
        go_ret
        exact⟨Zg HVF.out.symm,below_drewN (Zd HLX.out HL.out) _⟩
    · have hwb:((xl:Int) !=wd)=true:=by simp [hwd]
      rw [decide_eq_false hwd] at HGB
      have HVF:Hid (stB wd ms d ts nx=false):=by show _=_;rw [HV.out,HNO.out (HGB.out.trans rfl)];rfl
      clear HGB
      go_wp2_with fail
      refine wp_region_quiet_lit (by kernel_rfl) (by kernel_rfl) ?_
      try simp only [List.append_eq,List.cons_append,List.nil_append]
      repeat (go_big_quiet_step (fail))
      refine wpQuiet_nil ?_
      intro _ hw'
      obtain⟨nq,hw''⟩:=hw'
      subst hw''
      go_wp2_with fail
      go_ret
      exact⟨Zg HVF.out.symm,below_drewN (Zd HLX.out HL.out) _⟩
  · have hlti:¬(i:Int)<(gs.length:Int):=by omega
    obtain rfl:i=gs.length:=by omega
    have HGY:=Za (Zh6 HA.out)
    rw [HGY.out] at HV
    clear hgr hIr hi hlt HGY HA
    go_wp2_with fail
    go_loopw [5] (fun iv wi=>∃i:Nat,i<=ms.length/\iv=.int .i64 i/\(∀j,j<i->ZaH gs (ZH ms j)=true)/\Below w3.heap.size w3 wi) (fun iv _=>ms.length-(intOf iv).toNat)
    case atStart=>exact⟨0,Nat.zero_le _,rfl,fun j hj=>by omega,HL.out⟩
    case round=>
     obtain⟨i,hi,rfl,hall,Li⟩:=hrel
     generalize hwi:wr=wi at *
     clear hwi wr HL
     have HA:=Za hall
     have HL:=Za Li
     have hIr:=HIW.out.below Li
     have hgr:=HGM.out.next Li
     have e1:=hIr.c1
     clear hall Li
     by_cases hlt:i<ms.length
     · have h60:=HM60.out
       have hlti:(i:Int)<(ms.length:Int):=by omega
       have hi0:(0:Int)<=(i:Int):=Int.natCast_nonneg _
       obtain⟨mb,mo,rfl,hmb,hms⟩:=Zbi.seg hIr.mv (by omega)
       obtain⟨cid,pa,pc,cat,hpv⟩:=hms.at (i:=i) hlt
       have HFD:=Za (Ze2 gm gc gs (mid ms i) wi hgr HGSM.out.1)
       have HNO:=Za (fun h=>ZfJ (lo:=gs) hlt h)
       have HLK:Hid (ZaH gs (ZH ms i)=true↔0<=Zv gs (mid ms i)/\mat gs (Zy gs (mid ms i))=mat ms i):=Zbg
       have HPV:=Za hpv
       have hpl:=HSM.out.1.2 i
       clear hms hpv hIr
       generalize mid ms i=x at *
       generalize mat ms i=xa at *
       rcases hfz:decide (0<=Zv gs x) with _ | _
       · have hfz':Zv gs x<0:=by simpa using hfz
         have HVF:Hid (stB wd ms d ts nx=false):=by show _=_;rw [HV.out,HNO.out (by rcases e:ZaH gs (ZH ms i) with _ | _;rfl;have:=HLK.out.1 e;omega)];rfl
         clear hfz HLK HNO hgr
         generalize Zv gs x=fz at *
         go_wp2_with fail
         refine HFD.out.mono ?_
         rintro e w5 ⟨rfl,hw5⟩
         subst hw5
         go_wp2_with fail
         refine wp_region_quiet_lit (by kernel_rfl) (by kernel_rfl) ?_
         try simp only [List.append_eq,List.cons_append,List.nil_append]
         repeat (go_big_quiet_step (fail))
         refine wpQuiet_nil ?_
         intro _ hw'
         obtain⟨nq,hw''⟩:=hw'
         subst hw''
         go_wp2_with fail
         go_ret
         exact⟨Zg HVF.out.symm,below_drewN (Zd HLX.out HL.out) _⟩
       · have hfz':0<=Zv gs x:=by simpa using hfz
         obtain⟨za,zb,zc⟩:=ZQ hfz'
         obtain⟨lb,lo2,rfl,hlb,hls⟩:=Zbi.seg hgr (by omega)
         obtain⟨-,qa,qc,qat,hqv⟩:=hls.at (i:=Zy gs x) za
         have hql:=HGSM.out.2 (Zy gs x)
         have HSA:Hid (∀m,Calls Tryz.prog 117 #[.slice qa (mat gs (Zy gs x)).length qc,.slice pa xa.length pc] (wi.drewN m) fun e w''=>e=.returned (.bool (decide (mat gs (Zy gs x)=xa)))/\∃m',w''=wi.drewN m'):=fun m=>by
          refine (Zk6 qa pa qc pc (mat gs (Zy gs x)) xa (wi.drewN m) (Zs.drewN hqv m) (Zs.drewN HPV.out m) (by omega)).mono ?_
          rintro e w'' ⟨he,m',hm⟩
          exact⟨he,m+m',by rw [hm];simp⟩
         have HV2:Hid (decide (mat gs (Zy gs x)=xa)=false->stB wd ms d ts nx=false):=fun h=>by rw [HV.out,HNO.out (by rcases e:ZaH gs (ZH ms i) with _ | _;rfl;have:=HLK.out.1 e;rw [decide_eq_false_iff_not] at h;exact absurd this.2 h)];rfl
         have HV3:Hid (decide (mat gs (Zy gs x)=xa)=true->ZaH gs (ZH ms i)=true):=fun h=>HLK.out.2 ⟨hfz',of_decide_eq_true h⟩
         rw [zb.symm] at HFD
         have hj0:(0:Int)<=(Zy gs x:Int):=Int.natCast_nonneg _
         have hj1:((Zy gs x:Nat):Int)<(gs.length:Int):=by omega
         have hj2:¬((Zy gs x:Nat):Int)<0:=by omega
         have hj2d:decide (((Zy gs x:Nat):Int)<0)=false:=decide_eq_false hj2
         clear hfz hfz' HLK HNO zb zc hls hqv hgr
         obtain⟨r,hr⟩:∃r,decide (mat gs (Zy gs x)=xa)=r:=⟨_,rfl⟩
         rw [hr] at HSA HV2 HV3
         clear hr
         generalize (mat gs (Zy gs x)).length=ql at *
         generalize Zy gs x=j at *
         go_wp2_with fail
         refine HFD.out.mono ?_
         rintro e w5 ⟨rfl,hw5⟩
         subst hw5
         go_wp2_with fail
         refine wp_region_quiet_lit (by kernel_rfl) (by kernel_rfl) ?_
         try simp only [List.append_eq,List.cons_append,List.nil_append]
         repeat (go_big_quiet_step ((go_at_call 117;exact HSA.out _)))
         refine wpQuiet_nil ?_
         intro _ hw'
         obtain⟨nq,hw''⟩:=hw'
         subst hw''
         cases r with
         | false=>
           have HVF:=Za (HV2.out rfl)
           go_wp2_with fail
           go_ret
           exact⟨Zg HVF.out.symm,below_drewN (Zd HLX.out HL.out) _⟩
         | true=>
           have HLK:=Za (HV3.out rfl)
           go_wp2_with fail
           go_roundw
           case rel=>exact⟨i+1,by omega,by go_num,fun j hj=>by
            rcases Nat.lt_or_ge j i with h | h
            · exact HA.out j h
            · rw [show j=i by omega];exact HLK.out,below_drewN HL.out _⟩
           case measure=>simp [intOf];omega
     · have hlti:¬(i:Int)<(ms.length:Int):=by omega
       obtain rfl:i=ms.length:=by omega
       have HBY:=Za (Zev HA.out)
       rw [HBY.out] at HV
       clear hgr hIr hi hlt HBY HA
       go_wp2_with fail
       go_ret
       exact⟨Zg (by rw [HV.out];rfl),Zd HLX.out HL.out⟩
theorem Zjv(n1 n2:Nat)(am aw ao:Option Addr)(cm cw cap n:Nat)(wd d nx:Int)(w:World):
 Calls Tryz.prog 129 #[.agg #[.int .i64 wd,.slice am n1 cm,.int .i64 d,.slice aw n2 cw,.int .i64 nx],.slice ao n cap] w fun e w'=>e=.returned (.bool (decide ((n:Int)=wd)))/\Below w.heap.size w w':=by
 obtain⟨W,hW⟩:∃W,w.alloc (.cells #[.int .i64 wd,.slice am n1 cm,.int .i64 d,.slice aw n2 cw,.int .i64 nx] 52)=W:=⟨_,rfl⟩
 have hB:Below w.heap.size w W:=by rw [<-hW];exact (Below.refl _ _).alloc (Nat.le_refl _) _
 have k0:W.cell? ⟨w.heap.size,0,none⟩=some (.int .i64 wd):=by rw [<-hW];simp
 have HB:=Za hB
 clear hB
 have hbe:((n:Int) ==wd)=decide ((n:Int)=wd):=by rw [Bool.eq_iff_iff];simp
 go_enter Tryz.func129,Tryz.ntmps129
 go_wp2_with fail
 go_ret
 exact⟨Zg (by simp),HB.out⟩
theorem iBars(n1 n2:Nat)(am aw ao:Option Addr)(cm cw cap:Nat)(wd d nx:Int)(m:Mk)(w:World):
 Calls Tryz.prog 138 #[.agg #[.int .i64 wd,.slice am n1 cm,.int .i64 d,.slice aw n2 cw,.int .i64 nx],.agg #[.int .i64 m.1,.slice ao m.2.length cap]] w fun e w'=>e=.returned (.bool (!grB wd nx m))/\Below w.heap.size w w':=by
 obtain⟨W1,hW1⟩:∃W,w.alloc (.cells #[.int .i64 wd,.slice am n1 cm,.int .i64 d,.slice aw n2 cw,.int .i64 nx] 52)=W:=⟨_,rfl⟩
 have hB1:Below w.heap.size w W1:=by rw [<-hW1];exact (Below.refl _ _).alloc (Nat.le_refl _) _
 have s1:W1.heap.size=w.heap.size+1:=by rw [<-hW1];simp
 obtain⟨W,hW⟩:∃W,W1.alloc (.cells #[.int .i64 m.1,.slice ao m.2.length cap] 29)=W:=⟨_,rfl⟩
 have hB2:Below W1.heap.size W1 W:=by rw [<-hW];exact (Below.refl _ _).alloc (Nat.le_refl _) _
 have hl1:w.heap.size<W1.heap.size:=by omega
 have hsz:W.heap.size=w.heap.size+1+1:=by rw [<-hW];simp [s1]
 have a0:W.cell? ⟨w.heap.size,0,none⟩=some (.int .i64 wd):=(hB2.cell (p:=⟨w.heap.size,0,none⟩) hl1).trans (by rw [<-hW1];simp)
 have a1:W.cell? ⟨w.heap.size,1,none⟩=some (.slice am n1 cm):=(hB2.cell (p:=⟨w.heap.size,1,none⟩) hl1).trans (by rw [<-hW1];simp)
 have a2:W.cell? ⟨w.heap.size,2,none⟩=some (.int .i64 d):=(hB2.cell (p:=⟨w.heap.size,2,none⟩) hl1).trans (by rw [<-hW1];simp)
 have a3:W.cell? ⟨w.heap.size,3,none⟩=some (.slice aw n2 cw):=(hB2.cell (p:=⟨w.heap.size,3,none⟩) hl1).trans (by rw [<-hW1];simp)
 have a4:W.cell? ⟨w.heap.size,4,none⟩=some (.int .i64 nx):=(hB2.cell (p:=⟨w.heap.size,4,none⟩) hl1).trans (by rw [<-hW1];simp)
 have b0:W.cell? ⟨w.heap.size+1,0,none⟩=some (.int .i64 m.1):=by rw [<-hW,<-s1];simp
 have b1:W.cell? ⟨w.heap.size+1,1,none⟩=some (.slice ao m.2.length cap):=by rw [<-hW,<-s1];simp
 have HWW:Hid ((w.alloc (.cells #[.int .i64 wd,.slice am n1 cm,.int .i64 d,.slice aw n2 cw,.int .i64 nx] 52)).alloc (.cells #[.int .i64 m.1,.slice ao m.2.length cap] 29)=W):=by show _=_;rw [hW1,hW]
 have HB:=Za (Zd hB1 hB2)
 have HK:=Za (fun (W':World) (L:Below W.heap.size W W')=>And.intro ((L.cell (p:=⟨w.heap.size,4,none⟩) (by show w.heap.size<_;omega)).trans a4) ((L.cell (p:=⟨w.heap.size+1,0,none⟩) (by show w.heap.size+1<_;omega)).trans b0))
 have HC:=Za (Zjv n1 n2 am aw ao cm cw cap m.2.length wd d nx W)
 have HG:Hid (grB wd nx m=(decide ((m.2.length:Int)=wd) && decide (m.1<nx))):=rfl
 rw [HG.out]
 clear hB1 hB2 hW1 hW s1 hsz hl1 HG
 generalize decide ((m.2.length:Int)=wd)=r at *
 have hge:decide (m.1≥nx)=!decide (m.1<nx):=by rw [Bool.eq_iff_iff];simp
 go_enter Tryz.func138,Tryz.ntmps138
 go_wp2_with fail
 rw [HWW.out]
 refine HC.out.mono ?_
 rintro e w2 ⟨rfl,L2⟩
 obtain⟨x4,y0⟩:=HK.out _ L2
 have HL:=Za (Zd HB.out L2)
 clear L2 HK a0 a1 a2 a3 a4 b0 b1 HWW
 cases r with
 | false=>
   go_wp2_with fail
   go_ret
   exact⟨rfl,HL.out⟩
 | true=>
   go_wp2_with fail
   go_ret
   exact⟨Zg (by simp),HL.out⟩
theorem Znw(n1 n2:Nat)(am aw ao:Option Addr)(cm cw cap:Nat)(wd d nx:Int)(hi:List Mk)(w:World)(hv:Zq w ao hi)(hsh:ZX hi):
 Calls Tryz.prog 215 #[.slice ao hi.length cap,.func (.func 138) #[.agg #[.int .i64 wd,.slice am n1 cm,.int .i64 d,.slice aw n2 cw,.int .i64 nx]] #[]] w fun e w'=>(∃r:Int,e=.returned (.int .i64 r)/\decide (0<=r)=!ZdA wd nx hi)/\Below w.heap.size w w':=by
 have HF:Hid (∀W k a c,Below w.heap.size w W->Zs W a (mat hi k)->Calls Tryz.prog 138 #[.agg #[.int .i64 wd,.slice am n1 cm,.int .i64 d,.slice aw n2 cw,.int .i64 nx],.agg #[.int .i64 (mid hi k),.slice a (mat hi k).length c]] W fun e w'=>e=.returned (.bool (!grB wd nx (ZH hi k)))/\Below W.heap.size W w'):=fun W k a c _ _=>
  iBars n1 n2 am aw a cm cw c wd d nx (ZH hi k) W
 have HV:=Za hv
 have hn:=hsh.1
 clear hv hsh
 go_enter Tryz.func215,Tryz.ntmps215
 go_wp2_with fail
 go_loopw [8] (fun i wr=>∃k:Nat,k<=hi.length/\i=.int .i64 k/\(∀j,j<k->grB wd nx (ZH hi j)=true)/\Below w.heap.size w wr) (fun i _=>hi.length-(intOf i).toNat)
 case atStart=>exact⟨0,Nat.zero_le _,rfl,fun j hj=>by omega,Below.refl _ _⟩
 case round=>
  obtain⟨k,hk,rfl,hall,L⟩:=hrel
  have HA:=Za hall
  have HL:=Za L
  have hvr:=HV.out.next L
  clear hall L
  by_cases hlt:k<hi.length
  · obtain⟨b,off,rfl,hb,hs⟩:=Zbi.seg hvr (by omega)
    obtain⟨c0,pa,pc,c1,hpv⟩:=hs.at (i:=k) hlt
    have HN:=Za (HF.out wr k pa pc HL.out hpv)
    clear hs hvr hpv
    rcases he:grB wd nx (ZH hi k) with _ | _
    · have HX:=Za (ZgW hlt he)
      rw [he] at HN
      clear he
      generalize mid hi k=x at *
      generalize (mat hi k).length=xl at *
      go_wp2_with fail
      refine HN.out.mono ?_
      rintro e w2 ⟨rfl,L2⟩
      have HL2:=Za (Zd HL.out L2)
      clear L2
      go_wp2_with fail
      go_ret
      exact⟨⟨(k:Int),rfl,by rw [HX.out];simp⟩,HL2.out⟩
    · rw [he] at HN
      have HE:=Za he
      clear he
      generalize mid hi k=x at *
      generalize (mat hi k).length=xl at *
      go_wp2_with fail
      refine HN.out.mono ?_
      rintro e w2 ⟨rfl,L2⟩
      have HL2:=Za (Zd HL.out L2)
      clear L2
      go_wp2_with fail
      go_roundw
      case rel=>exact⟨k+1,by omega,by go_num,fun j hj=>by
       rcases Nat.lt_or_ge j k with h | h
       · exact HA.out j h
       · rw [show j=k by omega];exact HE.out,HL2.out⟩
      case measure=>simp [intOf];omega
  · go_wp2_with fail
    go_ret
    obtain rfl:k=hi.length:=by omega
    exact⟨⟨-1,rfl,by rw [Zh6 HA.out];rfl⟩,HL.out⟩
theorem Zmt(n1 n2:Nat)(am aw ao:Option Addr)(cm cw cap:Nat)(wd d nx:Int)(hi:List Mk)(w:World)(hv:Zq w ao hi)(hsh:ZX hi):
 Calls Tryz.prog 137 #[.slice ao hi.length cap,.func (.func 138) #[.agg #[.int .i64 wd,.slice am n1 cm,.int .i64 d,.slice aw n2 cw,.int .i64 nx]] #[]] w fun e w'=>e=.returned (.bool (!ZdA wd nx hi))/\Below w.heap.size w w':=by
 have HI:=Za (Znw n1 n2 am aw ao cm cw cap wd d nx hi w hv hsh)
 clear hv
 go_enter Tryz.func137,Tryz.ntmps137
 go_wp2_with fail
 refine HI.out.mono ?_
 rintro e w2 ⟨⟨r,rfl,hr⟩,L2⟩
 have HL2:=Za L2
 clear L2
 go_wp2_with fail
 go_ret
 exact⟨Zg (by rw [<-hr]),HL2.out⟩
theorem ZgX{x lo hi:Int}(h:x<lo\/hi<x):inR x lo hi=false:=by
 rw [inR,Bool.and_eq_false_iff]
 rcases h with h | h
 · left;exact decide_eq_false (by omega)
 · right;exact decide_eq_false (by omega)
theorem ZjI{x lo hi:Int}(h1:¬x<lo)(h2:¬hi<x):inR x lo hi=true:=by
 rw [inR,Bool.and_eq_true]
 exact⟨decide_eq_true (by omega),decide_eq_true (by omega)⟩
theorem Zmu{wd:Int}{ms:List Mk}{d:Int}{ts:List Wb}{nx:Int}(h:inR wd 1 4=false):stB wd ms d ts nx=false:=by rw [stB,h];rfl
theorem Zmv{wd:Int}{ms:List Mk}{d:Int}{ts:List Wb}{nx:Int}(h:inR nx 1 1000000=false):stB wd ms d ts nx=false:=by
 rw [stB,h]
 rcases inR wd 1 4 with _ | _ <;> rcases Zn ms with _ | _ <;> rcases ZZ d ts with _ | _ <;> rfl
theorem Zh7(am aw:Option Addr)(cm cw:Nat)(wd:Int)(ms:List Mk)(d:Int)(ts:List Wb)(nx:Int)(w:World)(hm:Zq w am ms)(hw:Zz true w aw ts)(hsm:Z5 ms ts)(h1:¬wd<1)(h2:¬4<wd)(h3:¬nx<1)(h4:¬1000000<nx):
 Calls Tryz.prog 39 #[.agg #[.int .i64 wd,.slice am ms.length cm,.int .i64 d,.slice aw ts.length cw,.int .i64 nx]] w fun e w'=>e=.returned (.bool (stB wd ms d ts nx))/\Below w.heap.size w w':=by
 obtain⟨W,hW⟩:∃W,w.alloc (.cells #[.int .i64 wd,.slice am ms.length cm,.int .i64 d,.slice aw ts.length cw,.int .i64 nx] 52)=W:=⟨_,rfl⟩
 have hB:Below w.heap.size w W:=by rw [<-hW];exact (Below.refl _ _).alloc (Nat.le_refl _) _
 have hI:Z7 true W w.heap.size am aw cm cw wd ms d ts nx:=by rw [<-hW];exact Z7.box hm hw
 have HB:=Za hB
 have HI:=Za hI
 have k0:=hI.c0
 have k1:=hI.c1
 have k4:=hI.c4
 have g2:¬wd > 4:=h2
 have g4:¬nx > 1000000:=h4
 have HMK:=Za (ZgB am cm ms W hI.mv hsm.1)
 have HTW:=Za (fun (W':World) (L:Below W.heap.size W W')=>Zht aw cw d ts W' (hI.below L).wv hsm.2.1)
 have HSM:=Za hsm
 have HTT:Hid (ZZ d ts=true->ts.length=4/\Zab (Zl ts 0).1 (Zl ts 0).2=true):=fun h=>by
  rw [ZZ,Bool.and_eq_true,Bool.and_eq_true,decide_eq_true_eq,List.all_eq_true] at h
  exact⟨h.2.1,ZcF (h.2.2 0 (by simp))⟩
 obtain⟨b2,hb2⟩:∃b,Zn ms=b:=⟨_,rfl⟩
 obtain⟨b3,hb3⟩:∃b,ZZ d ts=b:=⟨_,rfl⟩
 have HV:Hid (stB wd ms d ts nx=(b2 && (b3 && (ZdA wd nx (Zl ts 0).1 && Zan (Zl ts 0).1 ms)))):=by show _=_;rw [stB,ZjI h1 h2,ZjI h3 h4,<-hb2,<-hb3];rfl
 rw [hb2] at HMK
 rw [hb3] at HTW HTT
 clear hm hw hsm hB hI hb2 hb3
 go_enter Tryz.func39,Tryz.ntmps39
 go_wp2_with fail
 refine HMK.out.mono ?_
 rintro e w1 ⟨rfl,L1⟩
 have HL1:=Za L1
 clear L1 hW k0 k1 k4
 cases b2 with
 | false=>
   go_wp2_with fail
   go_ret
   exact⟨Zg (by rw [HV.out];rfl),Zd HB.out HL1.out⟩
 | true=>
 have c2:=(HI.out.below HL1.out).c2
 have c3:=(HI.out.below HL1.out).c3
 go_wp2_with fail
 refine (HTW.out _ HL1.out).mono ?_
 rintro e w2 ⟨rfl,L2⟩
 have HL2:=Za (Zd HL1.out L2)
 clear L2 HL1 c2 c3
 cases b3 with
 | false=>
   go_wp2_with fail
   go_ret
   exact⟨Zg (by rw [HV.out];rfl),Zd HB.out HL2.out⟩
 | true=>
 have hI2:=HI.out.below HL2.out
 have HLEN:=Za (HTT.out (by trivial)).1
 have HWB:=Za (ZJ (HTT.out (by trivial)).2)
 obtain⟨b,off,gm,gc,al,cl,rfl,hb,q0,q1,hgm,hgl,-⟩:=hI2.wv.web (n:=0) (by rw [HLEN.out];omega)
 rw [Nat.zero_mul,Nat.add_zero] at q0 q1
 have c0:=hI2.c0
 have c1:=hI2.c1
 have c2:=hI2.c2
 have c3:=hI2.c3
 have c4:=hI2.c4
 rw [HLEN.out] at c3
 obtain⟨X,hX⟩:∃X,w2.heap.size=X:=⟨_,rfl⟩
 obtain⟨V,hV⟩:∃V,w2.alloc (.cells #[.slice gm (Zl ts 0).1.length gc,.slice al (Zl ts 0).2.length cl] 47)=V:=⟨_,rfl⟩
 have LV:Below w2.heap.size w2 V:=by rw [<-hV];exact (Below.refl _ _).alloc (Nat.le_refl _) _
 have y0:V.cell? ⟨X,0,none⟩=some (.slice gm (Zl ts 0).1.length gc):=by rw [<-hV,<-hX];simp
 have y1:V.cell? ⟨X,1,none⟩=some (.slice al (Zl ts 0).2.length cl):=by rw [<-hV,<-hX];simp
 have hIV:=hI2.below LV
 replace c0:=hIV.c0
 replace c1:=hIV.c1
 replace c2:=hIV.c2
 replace c3':=hIV.c3
 replace c4:=hIV.c4
 rw [HLEN.out] at c3'
 have hXV:X<V.heap.size:=by rw [<-hV,<-hX];simp
 have HC:=Za (Zmt ms.length 4 am (some ⟨b,off,none⟩) gm cm cw gc wd d nx (Zl ts 0).1 V (hgm.next LV) (HSM.out.2.1.2 0).1)
 have HC2:=Za (fun (W':World) (L:Below V.heap.size V W')=>Zmw gm al am none gc cl cm 0 0 (Zl ts 0).1 (Zl ts 0).2 ms W' (hgm.next (Zd LV L)) (hgl.next (Zd LV L)) HWB.out (HSM.out.2.1.2 0).1 ((hIV.below L).mv) HSM.out.1)
 have HLV:=Za (Zd HB.out (Zd HL2.out LV))
 have HIV:=Za hIV
 have HK:=Za (fun (W':World) (L:Below V.heap.size V W')=>And.intro ((L.cell (p:=⟨X,0,none⟩) hXV).trans y0) ((L.cell (p:=⟨X,1,none⟩) hXV).trans y1))
 obtain⟨r,hr⟩:∃r,ZdA wd nx (Zl ts 0).1=r:=⟨_,rfl⟩
 obtain⟨r2,hr2⟩:∃r,Zan (Zl ts 0).1 ms=r:=⟨_,rfl⟩
 rw [hr] at HC HV
 rw [hr2] at HC2 HV
 clear hI2 hIV hgm hgl LV HTW HI HWB hr hr2
 generalize (Zl ts 0).1.length=l1 at *
 generalize (Zl ts 0).2.length=l2 at *
 rw [HLEN.out] at *
 go_wp2_with fail
 refine HC.out.mono ?_
 rintro e w4 ⟨rfl,L4⟩
 obtain⟨u0,u1⟩:=HK.out _ L4
 have d1:=(HIV.out.below L4).c1
 have HL4:=Za L4
 have HD:=Za (HC2.out _ L4)
 clear L4 hV y0 y1 c0 c1 c2 c3 c3' c4 q0 q1 HK HIV HC2 HC
 cases r with
 | false=>
   go_wp2_with fail
   go_ret
   exact⟨Zg (by rw [HV.out];rfl),Zd HLV.out HL4.out⟩
 | true=>
 go_wp2_with fail
 refine HD.out.mono ?_
 rintro e w5 ⟨rfl,L5⟩
 have HL5:=Za (Zd HL4.out L5)
 clear L5 u0 u1 d1
 go_wp2_with fail
 go_ret
 exact⟨Zg (by rw [HV.out];rfl),Zd HLV.out HL5.out⟩
theorem Zb9(am aw:Option Addr)(cm cw:Nat)(wd:Int)(ms:List Mk)(d:Int)(ts:List Wb)(nx:Int)(w:World)(hm:Zq w am ms)(hw:Zz true w aw ts)(hsm:Z5 ms ts):
 Calls Tryz.prog 39 #[.agg #[.int .i64 wd,.slice am ms.length cm,.int .i64 d,.slice aw ts.length cw,.int .i64 nx]] w fun e w'=>e=.returned (.bool (stB wd ms d ts nx))/\Below w.heap.size w w':=by
 by_cases hbad:wd<1\/4<wd\/nx<1\/1000000<nx
 · obtain⟨W,hW⟩:∃W,w.alloc (.cells #[.int .i64 wd,.slice am ms.length cm,.int .i64 d,.slice aw ts.length cw,.int .i64 nx] 52)=W:=⟨_,rfl⟩
   have hB:Below w.heap.size w W:=by rw [<-hW];exact (Below.refl _ _).alloc (Nat.le_refl _) _
   have hI:Z7 true W w.heap.size am aw cm cw wd ms d ts nx:=by rw [<-hW];exact Z7.box hm hw
   have HB:=Za hB
   have k0:=hI.c0
   have k4:=hI.c4
   have HV:Hid (stB wd ms d ts nx=false):=by
    show _=_
    rcases hbad with h | h | h | h
    · exact Zmu (ZgX (Or.inl h))
    · exact Zmu (ZgX (Or.inr h))
    · exact Zmv (ZgX (Or.inl h))
    · exact Zmv (ZgX (Or.inr h))
   rw [HV.out]
   clear hm hw hsm hB hI HV
   by_cases h1:wd<1
   · clear hbad
     go_enter Tryz.func39,Tryz.ntmps39
     go_wp2_with fail
     go_ret
     exact⟨rfl,HB.out⟩
   by_cases h2:wd > 4
   · clear hbad
     go_enter Tryz.func39,Tryz.ntmps39
     go_wp2_with fail
     go_ret
     exact⟨rfl,HB.out⟩
   by_cases h3:nx<1
   · clear hbad
     go_enter Tryz.func39,Tryz.ntmps39
     go_wp2_with fail
     go_ret
     exact⟨rfl,HB.out⟩
   have h4:nx > 1000000:=by omega
   clear hbad
   go_enter Tryz.func39,Tryz.ntmps39
   go_wp2_with fail
   go_ret
   exact⟨rfl,HB.out⟩
 · exact Zh7 am aw cm cw wd ms d ts nx w hm hw hsm (by omega) (by omega) (by omega) (by omega)
def Zek(wd:Int)(ms:List Mk)(d:Int)(ts:List Wb)(nx:Int)(q:List Int)(k:Int):Bool:=stB wd ms d ts nx && (okB q && (decide ((q.length:Int)=wd) && Zaz k))
theorem ZaD{wd:Int}{ms:List Mk}{d:Int}{ts:List Wb}{nx:Int}(h:stB wd ms d ts nx=true):Zn ms=true/\ZZ d ts=true/\ZdA wd nx (Zl ts 0).1=true/\Zan (Zl ts 0).1 ms=true:=by
 simp only [stB,Bool.and_eq_true] at h
 exact⟨h.2.1,h.2.2.1,h.2.2.2.2.1,h.2.2.2.2.2⟩
theorem ZiP{wd nx:Int}{l:List Mk}{k:Nat}(h:ZdA wd nx l=true)(hk:k<l.length):((mat l k).length:Int)=wd/\mid l k<nx:=by
 rcases e:grB wd nx (ZH l k) with _ | _
 · rw [ZgW hk e] at h;cases h
 · simp only [grB,Bool.and_eq_true,decide_eq_true_eq] at e;exact e
theorem Znx{wd:Int}{ms:List Mk}{d:Int}{ts:List Wb}{nx:Int}(h:stB wd ms d ts nx=true){k:Nat}(hk:k<ms.length):((mat ms k).length:Int)=wd:=by
 obtain⟨_,_,h3,h4⟩:=ZaD h
 obtain⟨f1,f2⟩:=Zej h4 hk
 obtain⟨za,_,_⟩:=ZQ f1
 rw [<-f2]
 exact (ZiP h3 za).1
def StV(w:World)(v:Value)(wd:Int)(ms:List Mk)(d:Int)(ts:List Wb)(nx:Int):Prop:=∃am cm aw cw,v=.agg #[.int .i64 wd,.slice am ms.length cm,.int .i64 d,.slice aw ts.length cw,.int .i64 nx]/\Zq w am ms/\Zz true w aw ts
def exL(wd:Int)(ms:List Mk)(d:Int)(ts:List Wb)(nx:Int)(q:List Int)(k:Int):List Ht:=if Zek wd ms d ts nx q k=true then Z1 ms q k else []
theorem ZjJ{ms:List Mk}{q:List Int}{k:Int}(h:Zap ms q=false):Z1 ms q k=[]:=by unfold Z1;rw [if_neg (by rw [h];simp)]
theorem Zmx{ms:List Mk}{q:List Int}{k:Int}(h:Zaz k=false):Z1 ms q k=[]:=by unfold Z1;rw [if_neg (by rw [h];simp)]
theorem Zmy{q:List Int}{k:Int}:Z1 [] q k=[]:=by unfold Z1;split <;> simp [Z0,ZU]
theorem ZoG{wd:Int}{ms:List Mk}{d:Int}{ts:List Wb}{nx:Int}{q:List Int}{k:Int}:exL wd ms d ts nx q k=if stB wd ms d ts nx=true then Z1 ms q k else []:=by
 unfold exL
 rcases hs:stB wd ms d ts nx with _ | _
 · simp [Zek,hs]
 · rw [if_pos rfl]
   rcases ht:Zek wd ms d ts nx q k with _ | _
   · rw [if_neg (by simp)]
     simp only [Zek,hs,Bool.true_and,Bool.and_eq_false_iff,decide_eq_false_iff_not] at ht
     rcases ht with h | h | h
     · exact (ZjJ (by simp [Zap,h])).symm
     · rcases hm:ms with _ | ⟨m,l⟩
       · exact Zmy.symm
       · rw [<-hm]
         have hw:=Znx hs (k:=0) (by rw [hm];simp)
         refine (ZjJ ?_).symm
         have h0:decide (ms.length=0)=false:=decide_eq_false (by rw [hm];simp)
         have h1:decide ((mat ms 0).length=q.length)=false:=decide_eq_false (by omega)
         rw [Zap,h0,h1]
         simp
     · exact (Zmx h).symm
   · rfl
theorem ZiF.mono16{base base':Nat}{w:World}{v:Value}{hs:List Ht}(h:ZiF base w v hs)(hb:base'<=base):ZiF base' w v hs:=by
 rcases h with h | ⟨g,c,e,hr⟩
 · exact Or.inl h
 · exact Or.inr ⟨g,c,e,hr.mono hb⟩
theorem Zom(am aw:Option Addr)(cm cw:Nat)(wd:Int)(ms:List Mk)(d:Int)(ts:List Wb)(nx:Int)(aq:Option Addr)(cq:Nat)(q:List Int)(k:Int)(w:World)(hm:Zq w am ms)(hw:Zz true w aw ts)(hsm:Z5 ms ts)(hq:Zs w aq q)(hql:q.length<=1048576)(_hqc:q.length<=cq):
 Calls Tryz.prog 43 #[.agg #[.int .i64 wd,.slice am ms.length cm,.int .i64 d,.slice aw ts.length cw,.int .i64 nx],.slice aq q.length cq,.int .i64 k] w fun e w'=>∃a c,e=.returned (.slice a (exL wd ms d ts nx q k).length c)/\ZiF w.heap.size w' (.slice a (exL wd ms d ts nx q k).length c) (exL wd ms d ts nx q k)/\Below w.heap.size w w':=by
 obtain⟨W,hW⟩:∃W,w.alloc (.cells #[.int .i64 wd,.slice am ms.length cm,.int .i64 d,.slice aw ts.length cw,.int .i64 nx] 52)=W:=⟨_,rfl⟩
 have hB:Below w.heap.size w W:=by rw [<-hW];exact (Below.refl _ _).alloc (Nat.le_refl _) _
 have hI:Z7 true W w.heap.size am aw cm cw wd ms d ts nx:=by rw [<-hW];exact Z7.box hm hw
 have HB:=Za hB
 have HI:=Za hI
 have k0:=hI.c0
 have k1:=hI.c1
 have k2:=hI.c2
 have k3:=hI.c3
 have k4:=hI.c4
 have HST:=Za (Zb9 am aw cm cw wd ms d ts nx W hI.mv hI.wv hsm)
 have HNE:=Za (fun (W':World) (L:Below W.heap.size W W')=>ZnG am aq cm cq ms q k W' (hI.below L).mv (Zs.next (Zs.next hq hB) L) hsm.1 hql)
 obtain⟨b1,hb1⟩:∃b,stB wd ms d ts nx=b:=⟨_,rfl⟩
 have HV:Hid (exL wd ms d ts nx q k=if b1=true then Z1 ms q k else []):=by show _=_;rw [ZoG,<-hb1]
 rw [hb1] at HST
 clear hm hw hsm hB hI hq hb1
 go_enter Tryz.func43,Tryz.ntmps43
 go_wp2_with fail
 refine HST.out.mono ?_
 rintro e w1 ⟨rfl,L1⟩
 have HL1:=Za L1
 clear L1 hW k0 k1 k2 k3 k4
 cases b1 with
 | false=>
   have HE:Hid (exL wd ms d ts nx q k=[]):=HV.out
   go_wp2_with fail
   go_ret
   rw [HE.out]
   exact⟨none,0,rfl,Or.inl ⟨rfl,rfl⟩,Zd HB.out HL1.out⟩
 | true=>
   have HE:Hid (exL wd ms d ts nx q k=Z1 ms q k):=HV.out
   have c1:=(HI.out.below HL1.out).c1
   go_wp2_with fail
   refine (HNE.out _ HL1.out).mono ?_
   rintro e w2 ⟨vv,rfl,row,L2⟩
   obtain⟨a,c,hvv,-⟩:=row.view
   subst hvv
   have HF:=Za (And.intro (row.mono16 (by have:=HL1.out.size;have:=HB.out.size;omega:w.heap.size<=w1.heap.size)) (Zd (Zd HB.out HL1.out) L2))
   clear row L2
   go_wp2_with fail
   go_ret
   rw [HE.out]
   exact⟨a,c,rfl,HF.out.1,HF.out.2⟩
theorem Ze3.set{w:World}{b q i:Nat}{v:Value}(h:Ze3 w b)(hq:q≠b):Ze3 (w.setCell ⟨q,i,none⟩ v) b:=
 ⟨by simpa [World.setCell] using h.1,fun j hj=>(Zgu (a:=⟨b,j,none⟩) (fun e=>hq e.symm)).trans (h.2 j hj)⟩
def Em(w:World)(aw:Option Addr)(ts:List Wb):Prop:=(aw=none/\ts=[])\/∃b,aw=some ⟨b,0,none⟩/\ts=ZdK/\Ze3 w b
theorem Em.view{w:World}{aw:Option Addr}{ts:List Wb}(h:Em w aw ts):Zz true w aw ts:=by
 rcases h with h | ⟨b,h1,h2,h3⟩
 · exact Or.inl h.2
 · rw [h1,h2];exact h3.view
theorem Em.small{w:World}{aw:Option Addr}{ts:List Wb}(h:Em w aw ts):Z5 [] ts:=by
 refine⟨⟨by simp,fun i=>by simp [mat]⟩,?_,?_⟩
 · rcases h with h | ⟨b,h1,h2,h3⟩
   · rw [h.2];exact⟨by simp,fun i=>by simp [Zl,ZX,ZaZ,mat,cn]⟩
   · rw [h2];exact Zio
 · rcases h with h | ⟨b,h1,h2,h3⟩
   · rw [h.2];decide
   · rw [h2];decide
theorem Zkl(wd:Int)(w:World)(h:inR wd 1 4=true):
 Calls Tryz.prog 42 #[.int .i64 wd] w fun e w'=>∃aw,e=.returned (.tuple #[.agg #[.int .i64 wd,.slice none 0 0,.int .i64 1,.slice aw 4 4,.int .i64 1],.bool true])/\Em w' aw ZdK/\Below w.heap.size w w':=by
 obtain⟨W,hW⟩:∃W,w.alloc (.cells #[.int .i64 0,.slice none 0 0,.int .i64 0,.slice none 0 0,.int .i64 0] 52)=W:=⟨_,rfl⟩
 have hB:Below w.heap.size w W:=by rw [<-hW];exact (Below.refl _ _).alloc (Nat.le_refl _) _
 have t1:W.heap[w.heap.size]? =some (.cells #[.int .i64 0,.slice none 0 0,.int .i64 0,.slice none 0 0,.int .i64 0] 52):=by rw [<-hW];exact heap_alloc_new w _
 have HB:=Za hB
 have HT:=Za t1
 have HIN:=Za (sIn wd 1 4)
 rw [h] at HIN
 have HN:=Za (ZjV W)
 clear hB t1 h
 go_enter Tryz.func42,Tryz.ntmps42
 go_wp2_with fail
 refine (HIN.out _).mono ?_
 rintro e w1 ⟨rfl,hw1⟩
 have hw2:=hw1.symm
 subst hw2
 go_wp2_with fail
 refine HN.out.mono ?_
 rintro e w2 ⟨b,rfl,n2,L2⟩
 obtain⟨e0,e1,e2,e3,e4,f2,hlt⟩:=Ze ((L2.block _ (Ze HT.out).2.2.2.2.2.2).trans HT.out)
 have f20:=f2 0
 have f21:=f2 1
 have f22:=f2 2
 have f23:=f2 3
 have f24:=f2 4
 have hne:w.heap.size≠b:=by
  intro e
  have h0:=n2.2 0 (by omega)
  rw [<-e,e0] at h0
  cases h0
 have HF:=Za (And.intro n2 (Zd HB.out L2))
 clear n2 L2 hW f2 HT HN HB
 go_wp2_with fail
 refine bodyPost_ret (v:=.tuple #[.agg #[.int .i64 wd,.slice none 0 0,.int .i64 1,.slice (some ⟨b,0,none⟩) 4 4,.int .i64 1],.bool true]) (by simp [results,Tryz.results42,go_sem,e0,e1,e2,e3,e4]) rfl ?_
 obtain⟨q1,q2⟩:=HF.out
 exact⟨_,rfl,Or.inr ⟨b,rfl,rfl,((((q1.set hne).set hne).set hne).set hne).set hne⟩,((((q2.setCell (Nat.le_refl _) _).setCell (Nat.le_refl _) _).setCell (Nat.le_refl _) _).setCell (Nat.le_refl _) _).setCell (Nat.le_refl _) _⟩
theorem ZgO(wd:Int)(w:World)(h:inR wd 1 4=false):
 Calls Tryz.prog 42 #[.int .i64 wd] w fun e w'=>∃aw,e=.returned (.tuple #[.agg #[.int .i64 0,.slice none 0 0,.int .i64 0,.slice aw 0 0,.int .i64 0],.bool false])/\Em w' aw []/\Below w.heap.size w w':=by
 obtain⟨W,hW⟩:∃W,w.alloc (.cells #[.int .i64 0,.slice none 0 0,.int .i64 0,.slice none 0 0,.int .i64 0] 52)=W:=⟨_,rfl⟩
 have hB:Below w.heap.size w W:=by rw [<-hW];exact (Below.refl _ _).alloc (Nat.le_refl _) _
 have t1:W.heap[w.heap.size]? =some (.cells #[.int .i64 0,.slice none 0 0,.int .i64 0,.slice none 0 0,.int .i64 0] 52):=by rw [<-hW];exact heap_alloc_new w _
 obtain⟨e0,e1,e2,e3,e4,f2,hlt⟩:=Ze t1
 have f20:=f2 0
 have f21:=f2 1
 have f22:=f2 2
 have f23:=f2 3
 have f24:=f2 4
 have HB:=Za hB
 have HIN:=Za (sIn wd 1 4)
 rw [h] at HIN
 clear hB t1 h f2
 go_enter Tryz.func42,Tryz.ntmps42
 go_wp2_with fail
 refine (HIN.out _).mono ?_
 rintro e w1 ⟨rfl,hw1⟩
 have hw2:=hw1.symm
 subst hw2
 clear hW
 go_wp2_with fail
 refine bodyPost_ret (v:=.tuple #[.agg #[.int .i64 0,.slice none 0 0,.int .i64 0,.slice none 0 0,.int .i64 0],.bool false]) (by simp [results,Tryz.results42,go_sem,e0,e1,e2,e3,e4]) rfl ?_
 exact⟨none,rfl,Or.inl ⟨rfl,rfl⟩,((((HB.out.setCell (Nat.le_refl _) _).setCell (Nat.le_refl _) _).setCell (Nat.le_refl _) _).setCell (Nat.le_refl _) _).setCell (Nat.le_refl _) _⟩
theorem ZlS(wd:Int):stB wd [] 1 ZdK 1=inR wd 1 4:=by
 have h1:Zn []=true:=by decide
 have h2:ZZ 1 ZdK=true:=by decide
 have h3:inR 1 1 1000000=true:=by decide
 have h4:ZdA wd 1 (Zl ZdK 0).1=true:=rfl
 have h5:Zan (Zl ZdK 0).1 []=true:=rfl
 rw [stB,h1,h2,h3,h4,h5]
 simp
theorem Zkk(wd:Int)(w:World):
 Calls Tryz.prog 36 #[.int .i64 wd] w fun e w'=>(inR wd 1 4=true->∃aw,e=.returned (.tuple #[.agg #[.int .i64 wd,.slice none 0 0,.int .i64 1,.slice aw 4 4,.int .i64 1],.bool true])/\Em w' aw ZdK/\Below w.heap.size w w')/\(inR wd 1 4=false->∃aw,e=.returned (.tuple #[.agg #[.int .i64 0,.slice none 0 0,.int .i64 0,.slice aw 0 0,.int .i64 0],.bool false])/\Em w' aw []/\Below w.heap.size w w'):=by
 obtain⟨W,hW⟩:∃W,w.alloc (.cells #[.int .i64 0,.slice none 0 0,.int .i64 0,.slice none 0 0,.int .i64 0] 52)=W:=⟨_,rfl⟩
 have hB:Below w.heap.size w W:=by rw [<-hW];exact (Below.refl _ _).alloc (Nat.le_refl _) _
 have t1:W.heap[w.heap.size]? =some (.cells #[.int .i64 0,.slice none 0 0,.int .i64 0,.slice none 0 0,.int .i64 0] 52):=by rw [<-hW];exact heap_alloc_new w _
 have HB:=Za hB
 have HT:=Za t1
 have HN:=Za (ZjW W)
 obtain⟨R,hR⟩:∃R,inR wd 1 4=R:=⟨_,rfl⟩
 have HR:Hid (stB wd [] 1 ZdK 1=R):=by show _=_;rw [ZlS,hR]
 rw [hR]
 clear hB t1 hR
 go_enter Tryz.func36,Tryz.ntmps36
 go_wp2_with fail
 refine HN.out.mono ?_
 rintro e w2 ⟨b,rfl,n2,L2⟩
 obtain⟨V,hV⟩:∃V,w2.alloc (.cells #[.int .i64 wd,.slice none 0 0,.int .i64 1,.slice (some ⟨b,0,none⟩) 4 4,.int .i64 1] 52)=V:=⟨_,rfl⟩
 have LV:Below w2.heap.size w2 V:=by rw [<-hV];exact (Below.refl _ _).alloc (Nat.le_refl _) _
 have u1:V.heap[w2.heap.size]? =some (.cells #[.int .i64 wd,.slice none 0 0,.int .i64 1,.slice (some ⟨b,0,none⟩) 4 4,.int .i64 1] 52):=by rw [<-hV];exact heap_alloc_new w2 _
 have tx:=(L2.block _ (Ze HT.out).2.2.2.2.2.2).trans HT.out
 have ty:=(LV.block _ (Ze tx).2.2.2.2.2.2).trans tx
 have hne:w.heap.size≠b:=by
  intro e
  have h0:=n2.2 0 (by omega)
  rw [<-e,(Ze tx).1] at h0
  cases h0
 have nV:=n2.next LV
 have HNV:=Za nV
 have HLV:=Za (Zd (Zd HB.out L2) LV)
 have HC:=Za (Zb9 none (some ⟨b,0,none⟩) 0 4 wd [] 1 ZdK 1 V (Or.inl rfl) nV.view (Em.small (Or.inr ⟨b,rfl,rfl,nV⟩)))
 rw [HR.out] at HC
 have HU:=Za (And.intro u1 ty)
 obtain⟨d0,d1,d2,d3,d4,-,-⟩:=Ze u1
 clear n2 L2 LV tx ty nV u1 HT HN HB hW
 go_wp2_with fail
 refine HC.out.mono ?_
 rintro e w3 ⟨rfl,L3⟩
 obtain⟨u1,ty⟩:=HU.out
 obtain⟨e0,e1,e2,e3,e4,f2,hlt⟩:=Ze ((L3.block _ (Ze ty).2.2.2.2.2.2).trans ty)
 obtain⟨g0,g1,g2,g3,g4,-,-⟩:=Ze ((L3.block _ (Ze u1).2.2.2.2.2.2).trans u1)
 have f20:=f2 0
 have f21:=f2 1
 have f22:=f2 2
 have f23:=f2 3
 have f24:=f2 4
 have HF:=Za (And.intro (HNV.out.next L3) (Zd HLV.out L3))
 clear L3 HU u1 ty hV d0 d1 d2 d3 d4 f2 HC HNV HLV HR
 cases R with
 | false=>
   clear g0 g1 g2 g3 g4
   go_wp2_with fail
   refine bodyPost_ret (v:=.tuple #[.agg #[.int .i64 0,.slice none 0 0,.int .i64 0,.slice none 0 0,.int .i64 0],.bool false]) (by simp [results,Tryz.results36,go_sem,e0,e1,e2,e3,e4]) rfl ?_
   obtain⟨q1,q2⟩:=HF.out
   exact⟨none,rfl,Or.inl ⟨rfl,rfl⟩,((((q2.setCell (Nat.le_refl _) _).setCell (Nat.le_refl _) _).setCell (Nat.le_refl _) _).setCell (Nat.le_refl _) _).setCell (Nat.le_refl _) _⟩
 | true=>
   go_wp2_with fail
   refine bodyPost_ret (v:=.tuple #[.agg #[.int .i64 wd,.slice none 0 0,.int .i64 1,.slice (some ⟨b,0,none⟩) 4 4,.int .i64 1],.bool true]) (by simp [results,Tryz.results36,go_sem,e0,e1,e2,e3,e4]) rfl ?_
   obtain⟨q1,q2⟩:=HF.out
   exact⟨_,rfl,Or.inr ⟨b,rfl,rfl,((((q1.set hne).set hne).set hne).set hne).set hne⟩,((((q2.setCell (Nat.le_refl _) _).setCell (Nat.le_refl _) _).setCell (Nat.le_refl _) _).setCell (Nat.le_refl _) _).setCell (Nat.le_refl _) _⟩
end Go.Proofs.YtaaagmgglolibaaGreat
