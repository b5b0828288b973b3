import Derived.Test.YtaaagmgglolibaaGreatFeHelpZz
import Derived.Test.YtaaagmgglolibaaGreatMCopyZz
import Derived.Test.YtaaagmgglolibaaGreatCopyZz
import Derived.Test.YtaaagmgglolibaaGreatZSpecZz
import Derived.BigQuiet
import Derived.Deep.LoopGhost
import Derived.Test.YtaaagmgglolibaaGreatFg0Zz
import Derived.Test.YtaaagmgglolibaaGreatJRwZz
import Derived.Test.YtaaagmgglolibaaGreatFeWalkZz
set_option maxRecDepth 100000
set_option maxHeartbeats 4000000
namespace Go.Proofs.YtaaagmgglolibaaGreat
open Go Go.RowKit
def ZaH(lo:List Mk)(m:Mk):Bool:=decide (0<=Zv lo m.1) && decide (mat lo (Zy lo m.1)=m.2)
def Zan(lo hi:List Mk):Bool:=hi.all (ZaH lo)
def Za8(ts:List Wb)(n:Nat):Bool:=Zab (Zl ts n).1 (Zl ts n).2 && (n ==0 || Zan (Zl ts (n-1)).1 (Zl ts n).1)
def ZZ(d:Int)(ts:List Wb):Bool:=inR d 0 1000002 && (decide (ts.length=4) && (List.range 4).all (Za8 ts))
theorem Zbg{lo:List Mk}{m:Mk}:ZaH lo m=true↔0<=Zv lo m.1/\mat lo (Zy lo m.1)=m.2:=by simp [ZaH]
theorem ZdF{l:List Mk}{k:Nat}(h:k<l.length):ZH l k∈l:=by simp [ZH,List.getD,h]
theorem ZfJ{lo hi:List Mk}{k:Nat}(hk:k<hi.length)(h:ZaH lo (ZH hi k)=false):Zan lo hi=false:=by
 rcases e:Zan lo hi with _ | _
 · rfl
 · rw [Zan,List.all_eq_true] at e
   rw [e _ (ZdF hk)] at h;cases h
theorem Zev{lo hi:List Mk}(h:∀k,k<hi.length->ZaH lo (ZH hi k)=true):Zan lo hi=true:=by
 rw [Zan,List.all_eq_true]
 intro m hm
 obtain⟨k,hk,rfl⟩:=List.getElem_of_mem hm
 have:=h k hk
 simpa [ZH,List.getD,hk] using this
theorem ZeP{d:Int}{ts:List Wb}{n:Nat}(hn:n<4)(h:Za8 ts n=false):ZZ d ts=false:=by
 rcases e:ZZ d ts with _ | _
 · rfl
 · simp only [ZZ,Bool.and_eq_true,List.all_eq_true,List.mem_range] at e
   rw [e.2.2 n hn] at h;cases h
theorem ZeR{d:Int}{ts:List Wb}(h1:inR d 0 1000002=true)(h2:ts.length=4)(h:∀n,n<4->Za8 ts n=true):ZZ d ts=true:=by
 simp only [ZZ,Bool.and_eq_true,List.all_eq_true,List.mem_range,decide_eq_true_eq]
 exact⟨h1,h2,h⟩
theorem Zgl{d:Int}{ts:List Wb}(h1:inR d 0 1000002=false):ZZ d ts=false:=by simp [ZZ,h1]
theorem Zgm{d:Int}{ts:List Wb}(h1:ts.length≠4):ZZ d ts=false:=by simp [ZZ,h1]
theorem Zgn{ts:List Wb}{n:Nat}(h:Zab (Zl ts n).1 (Zl ts n).2=false):Za8 ts n=false:=by simp [Za8,h]
theorem ZfK{ts:List Wb}{n:Nat}(h0:0<n)(h:Zan (Zl ts (n-1)).1 (Zl ts n).1=false):Za8 ts n=false:=by
 have:n≠0:=by omega
 simp [Za8,h,this]
theorem Zde{ts:List Wb}{n:Nat}(h1:Zab (Zl ts n).1 (Zl ts n).2=true)(h:0<n->Zan (Zl ts (n-1)).1 (Zl ts n).1=true):Za8 ts n=true:=by
 rcases Nat.eq_zero_or_pos n with e | e
 · subst e;simp [Za8,h1]
 · simp [Za8,h1,h e]
theorem ZcF{ts:List Wb}{n:Nat}(h:Za8 ts n=true):Zab (Zl ts n).1 (Zl ts n).2=true:=by
 rw [Za8,Bool.and_eq_true] at h;exact h.1
structure ZfL(s:Bool)(w:World)(X:Nat)(d:Int)(aw:Option Addr)(cw:Nat)(ts:List Wb):Prop where
 lt:X<w.heap.size
 c0:w.cell? ⟨X,0,none⟩=some (.int .i64 d)
 c1:w.cell? ⟨X,1,none⟩=some (.slice aw ts.length cw)
 wv:Zz s w aw ts
theorem ZfL.box{s:Bool}{w:World}{d:Int}{aw:Option Addr}{cw:Nat}{ts:List Wb}{t:TypeId}(h:Zz s w aw ts):ZfL s (w.alloc (.cells #[.int .i64 d,.slice aw ts.length cw] t)) w.heap.size d aw cw ts:=
 ⟨by simp,by simp,by simp,h.next ((Below.refl _ _).alloc (Nat.le_refl _) _)⟩
theorem ZfL.below{s:Bool}{w w':World}{X:Nat}{d:Int}{aw:Option Addr}{cw:Nat}{ts:List Wb}(h:ZfL s w X d aw cw ts)(L:Below w.heap.size w w'):ZfL s w' X d aw cw ts:=
 ⟨Nat.lt_of_lt_of_le h.lt L.size,(L.cell (p:=⟨X,0,none⟩) h.lt).trans h.c0,(L.cell (p:=⟨X,1,none⟩) h.lt).trans h.c1,h.wv.next L⟩
theorem ZfL.web{s:Bool}{w:World}{X:Nat}{d:Int}{aw:Option Addr}{cw:Nat}{ts:List Wb}(h:ZfL s w X d aw cw ts){n:Nat}(hn:n<ts.length):∃b off am cm al cl,aw=some ⟨b,off,none⟩/\b<w.heap.size/\w.cell? ⟨b,off+n*2,none⟩=some (.slice am (Zl ts n).1.length cm)/\w.cell? ⟨b,off+n*2+1,none⟩=some (.slice al (Zl ts n).2.length cl)/\Zq w am (Zl ts n).1/\Z8 w al (Zl ts n).2/\(s=true->(Zl ts n).1.length<=cm/\(Zl ts n).2.length<=cl):=by
 obtain⟨b,off,e,hb,hs⟩:=h.wv.seg (by omega)
 obtain⟨am,cm,al,cl,h1,h2,h3,h4,h5⟩:=hs n hn
 exact⟨b,off,am,cm,al,cl,e,hb,h1,h2,h3,h4,h5⟩
theorem Zh8(s:Bool)(aw:Option Addr)(cw:Nat)(d:Int)(ts:List Wb)(w:World)(hv:Zz s w aw ts)(hsm:ZaB ts)(hin:inR d 0 1000002=true)(hlen:ts.length=4):
 Calls Tryz.prog 20 #[.agg #[.int .i64 d,.slice aw 4 cw]] w fun e w'=>e=.returned (.bool (ZZ d ts))/\Below w.heap.size w w':=by
 obtain⟨W,hW⟩:∃W,w.alloc (.cells #[.int .i64 d,.slice aw 4 cw] 26)=W:=⟨_,rfl⟩
 have hB:Below w.heap.size w W:=by rw [<-hW];exact (Below.refl _ _).alloc (Nat.le_refl _) _
 have hI:ZfL s W w.heap.size d aw cw ts:=by rw [<-hW,<-hlen];exact ZfL.box hv
 have HD:=Za (ZcC d W)
 rw [hin] at HD
 have k0:=hI.c0
 have k1:=hI.c1
 rw [hlen] at k1
 have HB:=Za hB
 have HI:=Za hI
 have HSM:=Za hsm.2
 have HLEN:=Za hlen
 have HIN:=Za hin
 clear hv hsm hB hI hin hlen
 go_enter Tryz.func20,Tryz.ntmps20
 go_wp2_with fail
 refine HD.out.mono ?_
 rintro e w1 ⟨rfl,hw1⟩
 subst hw1
 go_wp2_with fail
 clear k0 HD
 go_loopg [3] 4 (fun gk nv wr=>∃n:Nat,n<=4/\4-n<=gk/\nv=.int .i64 n/\(∀j,j<n->Za8 ts j=true)/\Below w1.heap.size w1 wr)
 case atStart=>exact⟨0,by omega,by omega,rfl,fun j hj=>by omega,Below.refl _ _⟩
 case round=>
  obtain⟨n,hn,hgk,rfl,hall,L⟩:=hrel
  have HA:=Za hall
  have HL:=Za L
  have hIr:=HI.out.below L
  clear hall L k1
  by_cases hlt:n<4
  · have hlti:(n:Int)<4:=by omega
    have hn0:(0:Int)<=(n:Int):=Int.natCast_nonneg _
    obtain⟨b,off,am,cm,al,cl,rfl,hb,c0,c1,hm,hc,-⟩:=hIr.web (n:=n) (by rw [HLEN.out];exact hlt)
    have k1:=hIr.c1
    rw [HLEN.out] at k1
    have HC:=Za (Zn3 am al cm cl (Zl ts n).1 (Zl ts n).2 wr hm hc (HSM.out n).1 (HSM.out n).2)
    have HIR:=Za hIr
    clear hm hc hIr
    rcases hwb:Zab (Zl ts n).1 (Zl ts n).2 with _ | _
    · rw [hwb] at HC
      have HV:=Za (ZeP (d:=d) hlt (Zgn hwb))
      clear hwb
      generalize (Zl ts n).1.length=l1 at *
      generalize (Zl ts n).2.length=l2 at *
      go_wp2_with fail
      refine HC.out.mono ?_
      rintro e w2 ⟨rfl,L2⟩
      have HF:=Za (Zd HB.out (Zd HL.out L2))
      clear L2
      go_wp2_with fail
      go_ret
      exact⟨Zg HV.out.symm,HF.out⟩
    · rw [hwb] at HC
      have HWB:=Za hwb
      have HM60:=Za (ZA (ZJ hwb))
      clear hwb
      obtain⟨hi,hhi⟩:∃hi,(Zl ts n).1=hi:=⟨_,rfl⟩
      have HHI:=Za hhi
      rw [hhi] at HC c0 HM60
      clear hhi
      generalize (Zl ts n).2.length=l2 at *
      go_wp2_with fail
      refine HC.out.mono ?_
      rintro e w2 ⟨rfl,L2⟩
      have HL2:=Za (Zd HL.out L2)
      clear L2 k1 c0 c1 HIR HC
      go_wp2_with fail
      go_loopw [4] (fun iv wi=>∃i:Nat,i<=hi.length/\(n=0->i=0)/\iv=.int .i64 i/\(∀j,j<i->ZaH (Zl ts (n-1)).1 (ZH hi j)=true)/\Below w1.heap.size w1 wi) (fun iv _=>hi.length-(intOf iv).toNat)
      case atStart=>exact⟨0,Nat.zero_le _,fun _=>rfl,rfl,fun j hj=>by omega,HL2.out⟩
      case round=>
       obtain⟨i,hi',hz,rfl,halli,Li⟩:=hrel
       generalize hwi:wr=wi at *
       clear hwi wr
       have HAI:=Za halli
       have HLI:=Za Li
       have hIi:=HI.out.below Li
       obtain⟨b2,off2,am2,cm2,al2,cl2,eb,hb2,d0,d1,hm2,-,-⟩:=hIi.web (n:=n) (by rw [HLEN.out];exact hlt)
       injection eb with eb
       injection eb with eb1 eb2
       subst eb1 eb2
       have k1:=hIi.c1
       rw [HLEN.out] at k1
       rw [HHI.out] at d0 hm2
       clear halli Li
       by_cases hil:i<hi.length
       · have hi60:=HM60.out
         have hili:(i:Int)<(hi.length:Int):=by omega
         have hi0:(0:Int)<=(i:Int):=Int.natCast_nonneg _
         by_cases hn1:0<n
         · have hgn:(n:Int) > 0:=by omega
           obtain⟨p,hp⟩:∃p,n-1=p:=⟨_,rfl⟩
           have hwp:IntKind.i64.wrap ((n:Int)-1)=(p:Int):=by rw [IntWalk.i64_in _ ⟨by omega,by omega⟩];omega
           have hp0:(0:Int)<=(p:Int):=Int.natCast_nonneg _
           have hp4:(p:Int)<4:=by omega
           obtain⟨b3,off3,am3,cm3,al3,cl3,eb3,hb3,e0,e1,hm3,-,-⟩:=hIi.web (n:=p) (by rw [HLEN.out];omega)
           injection eb3 with eb3
           injection eb3 with eb31 eb32
           subst eb31 eb32
           obtain⟨mb,mo,rfl,hmb,hms⟩:=Zbi.seg hm2 (by omega)
           obtain⟨cid,pa,pc,cat,hpv⟩:=hms.at (i:=i) hil
           have HSL:=Za (HSM.out p).1
           rw [hp] at HAI
           have HBR:Hid (Zan (Zl ts p).1 hi=false->ZZ d ts=false):=fun h=>ZeP hlt (ZfK hn1 (by rw [hp,HHI.out];exact h))
           have HNB:=Za (fun h=>ZfJ (lo:=(Zl ts p).1) hil h)
           have HLK:Hid (ZaH (Zl ts p).1 (ZH hi i)=true↔0<=Zv (Zl ts p).1 (mid hi i)/\mat (Zl ts p).1 (Zy (Zl ts p).1 (mid hi i))=mat hi i):=Zbg
           have hp4':=(HSM.out n).1
           rw [HHI.out] at hp4'
           have hpl:=hp4'.2 i
           obtain⟨V,hV⟩:∃V,wi.alloc (.cells #[.int .i64 (mid hi i),.slice pa (mat hi i).length pc] 29)=V:=⟨_,rfl⟩
           have LV:Below wi.heap.size wi V:=by rw [<-hV];exact (Below.refl _ _).alloc (Nat.le_refl _) _
           have y0:V.cell? ⟨wi.heap.size,0,none⟩=some (.int .i64 (mid hi i)):=by rw [<-hV];simp
           have y1:V.cell? ⟨wi.heap.size,1,none⟩=some (.slice pa (mat hi i).length pc):=by rw [<-hV];simp
           have HXl:=hIi.lt
           have k1':=(LV.cell (p:=⟨w.heap.size,1,none⟩) HXl).trans k1
           have e0':=(LV.cell (p:=⟨b,off+p*2,none⟩) hb3).trans e0
           have HLV:=Za (Zd HLI.out LV)
           have HFD:Hid (∀m,Calls Tryz.prog 116 #[.slice am3 (Zl ts p).1.length cm3,.int .i64 (mid hi i)] (V.drewN m) fun e w''=>e=.returned (.int .i64 (Zv (Zl ts p).1 (mid hi i)))/\∃m',w''=V.drewN m'):=fun m=>by
            refine (Ze2 am3 cm3 (Zl ts p).1 (mid hi i) (V.drewN m) (hm3.next (below_drewN LV m)) HSL.out.1).mono ?_
            rintro e w'' ⟨he,hm⟩
            exact⟨he,m,hm⟩
           have HPV:=Za (hpv.next LV)
           have HM3:=Za (hm3.next LV)
           clear hms hm2 hm3 hIi hpv LV hp4'
           generalize hlo:(Zl ts p).1=lo at *
           generalize hxid:mid hi i=x at *
           generalize hxat:mat hi i=xa at *
           have HLO:Hid ((Zl ts (n-1)).1=lo):=by show _=_;rw [hp,hlo]
           clear hlo hxid hxat
           rcases hfz:decide (0<=Zv lo x) with _ | _
           · have hfz':Zv lo x<0:=by simpa using hfz
             have HV2:=Za (HBR.out (HNB.out (by rcases e:ZaH lo (ZH hi i) with _ | _;rfl;have:=HLK.out.1 e;omega)))
             clear hfz HLK HBR HNB
             generalize Zv lo x=fz at *
             go_wp2_with fail
             clear hV
             refine wp_region_quiet_lit (by kernel_rfl) (by kernel_rfl) ?_
             try simp only [List.append_eq,List.cons_append,List.nil_append]
             repeat (go_big_quiet_step ((go_at_call 116;exact HFD.out _)))
             refine wpQuiet_nil ?_
             intro _ hw'
             obtain⟨nq,hw''⟩:=hw'
             subst hw''
             go_wp2_with fail
             refine wp_region_quiet_lit (by kernel_rfl) (by kernel_rfl) ?_
             try simp only [List.append_eq,List.cons_append,List.nil_append]
             repeat (go_big_quiet_step (fail))
             refine wpQuiet_nil ?_
             intro _ hw'
             obtain⟨nq2,hw''⟩:=hw'
             subst hw''
             go_wp2_with fail
             go_ret
             exact⟨Zg HV2.out.symm,below_drewN (below_drewN (Zd HB.out HLV.out) _) _⟩
           · have hfz':0<=Zv lo x:=by simpa using hfz
             obtain⟨za,zb,zc⟩:=ZQ hfz'
             obtain⟨lb,lo2,rfl,hlb,hls⟩:=Zbi.seg HM3.out (by omega)
             obtain⟨-,qa,qc,qat,hqv⟩:=hls.at (i:=Zy lo x) za
             have hql:=HSL.out.2 (Zy lo x)
             have HSA:Hid (∀k m,Calls Tryz.prog 117 #[.slice qa (mat lo (Zy lo x)).length qc,.slice pa xa.length pc] ((V.drewN k).drewN m) fun e w''=>e=.returned (.bool (decide (mat lo (Zy lo x)=xa)))/\∃m',w''=(V.drewN k).drewN m'):=fun k m=>by
              refine (Zk6 qa pa qc pc (mat lo (Zy lo x)) xa ((V.drewN k).drewN m) (Zs.drewN (Zs.drewN hqv k) m) (Zs.drewN (Zs.drewN HPV.out k) m) (by omega)).mono ?_
              rintro e w'' ⟨he,m',hm⟩
              exact⟨he,m+m',by rw [hm];simp [Nat.add_assoc]⟩
             have HV2:Hid (decide (mat lo (Zy lo x)=xa)=false->ZZ d ts=false):=fun h=>HBR.out (HNB.out (by rcases e:ZaH lo (ZH hi i) with _ | _;rfl;have:=HLK.out.1 e;rw [decide_eq_false_iff_not] at h;exact absurd this.2 h))
             have HV3:Hid (decide (mat lo (Zy lo x)=xa)=true->ZaH lo (ZH hi i)=true):=fun h=>HLK.out.2 ⟨hfz',of_decide_eq_true h⟩
             have hzi:Zv lo x=(Zy lo x:Nat):=zb.symm
             rw [hzi] at HFD
             have hj0:(0:Int)<=(Zy lo x:Int):=Int.natCast_nonneg _
             have hj1:((Zy lo x:Nat):Int)<(lo.length:Int):=by omega
             have hj2:¬((Zy lo x:Nat):Int)<0:=by omega
             have hj2d:decide (((Zy lo x:Nat):Int)<0)=false:=decide_eq_false hj2
             clear hfz hfz' HLK HBR HNB zb zc hzi hls hqv
             rcases hsm:decide (mat lo (Zy lo x)=xa) with _ | _
             · rw [hsm] at HSA
               have HV4:=Za (HV2.out hsm)
               clear hsm HV2 HV3
               generalize (mat lo (Zy lo x)).length=ql at *
               generalize Zy lo x=j at *
               go_wp2_with fail
               clear hV
               refine wp_region_quiet_lit (by kernel_rfl) (by kernel_rfl) ?_
               try simp only [List.append_eq,List.cons_append,List.nil_append]
               repeat (go_big_quiet_step ((go_at_call 116;exact HFD.out _)))
               refine wpQuiet_nil ?_
               intro _ hw'
               obtain⟨nq,hw''⟩:=hw'
               subst hw''
               have HSB:=Za (HSA.out nq)
               have HLQ:Hid (Below w1.heap.size w1 (V.drewN nq)):=below_drewN HLV.out nq
               replace y0:(V.drewN nq).cell? ⟨wi.heap.size,0,none⟩=some (.int .i64 x):=y0
               replace y1:(V.drewN nq).cell? ⟨wi.heap.size,1,none⟩=some (.slice pa xa.length pc):=y1
               replace k1':(V.drewN nq).cell? ⟨w.heap.size,1,none⟩=some (.slice (some ⟨b,off,none⟩) 4 cw):=k1'
               replace e0':(V.drewN nq).cell? ⟨b,off+p*2,none⟩=some (.slice (some ⟨lb,lo2,none⟩) lo.length cm3):=e0'
               replace qat:(V.drewN nq).cell? ⟨lb,lo2+j*2+1,none⟩=some (.slice qa ql qc):=qat
               generalize V.drewN nq=V2 at *
               clear HSA HFD HM3 HPV hlb
               go_wp2_with fail
               refine wp_region_quiet_lit (by kernel_rfl) (by kernel_rfl) ?_
               try simp only [List.append_eq,List.cons_append,List.nil_append]
               repeat (go_big_quiet_step ((go_at_call 117;exact HSB.out _)))
               refine wpQuiet_nil ?_
               intro _ hw'
               obtain⟨nq2,hw''⟩:=hw'
               subst hw''
               go_wp2_with fail
               go_ret
               exact⟨Zg HV4.out.symm,below_drewN (Zd HB.out HLQ.out) _⟩
             · rw [hsm] at HSA
               have HV4:=Za (HV3.out hsm)
               clear hsm HV2 HV3
               generalize (mat lo (Zy lo x)).length=ql at *
               generalize Zy lo x=j at *
               go_wp2_with fail
               clear hV
               refine wp_region_quiet_lit (by kernel_rfl) (by kernel_rfl) ?_
               try simp only [List.append_eq,List.cons_append,List.nil_append]
               repeat (go_big_quiet_step ((go_at_call 116;exact HFD.out _)))
               refine wpQuiet_nil ?_
               intro _ hw'
               obtain⟨nq,hw''⟩:=hw'
               subst hw''
               have HSB:=Za (HSA.out nq)
               have HLQ:Hid (Below w1.heap.size w1 (V.drewN nq)):=below_drewN HLV.out nq
               replace y0:(V.drewN nq).cell? ⟨wi.heap.size,0,none⟩=some (.int .i64 x):=y0
               replace y1:(V.drewN nq).cell? ⟨wi.heap.size,1,none⟩=some (.slice pa xa.length pc):=y1
               replace k1':(V.drewN nq).cell? ⟨w.heap.size,1,none⟩=some (.slice (some ⟨b,off,none⟩) 4 cw):=k1'
               replace e0':(V.drewN nq).cell? ⟨b,off+p*2,none⟩=some (.slice (some ⟨lb,lo2,none⟩) lo.length cm3):=e0'
               replace qat:(V.drewN nq).cell? ⟨lb,lo2+j*2+1,none⟩=some (.slice qa ql qc):=qat
               generalize V.drewN nq=V2 at *
               clear HSA HFD HM3 HPV hlb
               go_wp2_with fail
               refine wp_region_quiet_lit (by kernel_rfl) (by kernel_rfl) ?_
               try simp only [List.append_eq,List.cons_append,List.nil_append]
               repeat (go_big_quiet_step ((go_at_call 117;exact HSB.out _)))
               refine wpQuiet_nil ?_
               intro _ hw'
               obtain⟨nq2,hw''⟩:=hw'
               subst hw''
               go_wp2_with fail
               go_roundw
               case rel=>exact⟨i+1,by omega,fun h=>by omega,by have:=HM60.out;go_num,fun j hj=>by
                rw [HLO.out]
                rcases Nat.lt_or_ge j i with h | h
                · exact HAI.out j h
                · rw [show j=i by omega];exact HV4.out,below_drewN HLQ.out _⟩
               case measure=>have:=HM60.out;simp [intOf];omega
         · have hgn:¬((n:Int) > 0):=by omega
           have HTN:Hid (Za8 ts n=true):=Zde HWB.out (fun h=>absurd h hn1)
           clear hz hm2 hIi
           go_wp2_with fail
           go_roundg (4-(n+1))
           case rel=>exact⟨n+1,by omega,by omega,by go_num,fun j hj=>by
            rcases Nat.lt_or_ge j n with h | h
            · exact HA.out j h
            · rw [show j=n by omega];exact HTN.out,HLI.out⟩
           case measure=>omega
       · have hili:¬(i:Int)<(hi.length:Int):=by omega
         obtain rfl:i=hi.length:=by omega
         have HTN:Hid (Za8 ts n=true):=Zde HWB.out (fun h=>by rw [HHI.out];exact Zev HAI.out)
         clear hz hm2 hIi
         go_wp2_with fail
         go_roundg (4-(n+1))
         case rel=>exact⟨n+1,by omega,by omega,by go_num,fun j hj=>by
          rcases Nat.lt_or_ge j n with h | h
          · exact HA.out j h
          · rw [show j=n by omega];exact HTN.out,HLI.out⟩
         case measure=>omega
  · have hlti:¬(n:Int)<4:=by omega
    obtain rfl:n=4:=by omega
    have HV:=Za (ZeR HIN.out HLEN.out HA.out)
    clear hIr
    go_wp2_with fail
    go_ret
    exact⟨Zg HV.out.symm,Zd HB.out HL.out⟩
theorem Zms(s:Bool)(aw:Option Addr)(cw:Nat)(d:Int)(ts:List Wb)(w:World)(hv:Zz s w aw ts)(hsm:ZaB ts):
 Calls Tryz.prog 20 #[.agg #[.int .i64 d,.slice aw ts.length cw]] w fun e w'=>e=.returned (.bool (ZZ d ts))/\Below w.heap.size w w':=by
 rcases hin:inR d 0 1000002 with _ | _
 · have HD:=Za (fun W=>ZcC d W)
   rw [hin] at HD
   have HV:=Za (Zgl (ts:=ts) hin)
   have hB:Below w.heap.size w (w.alloc (.cells #[.int .i64 d,.slice aw ts.length cw] 26)):=(Below.refl _ _).alloc (Nat.le_refl _) _
   have HB:=Za hB
   clear hin hv hB
   go_enter Tryz.func20,Tryz.ntmps20
   go_wp2_with fail
   refine (HD.out _).mono ?_
   rintro e w1 ⟨rfl,hw1⟩
   subst hw1
   go_wp2_with fail
   go_ret
   exact⟨Zg HV.out.symm,HB.out⟩
 · by_cases hlen:ts.length=4
   · rw [hlen]
     exact Zh8 s aw cw d ts w hv hsm hin hlen
   · have HD:=Za (fun W=>ZcC d W)
     rw [hin] at HD
     have HV:=Za (Zgm (d:=d) hlen)
     have hB:Below w.heap.size w (w.alloc (.cells #[.int .i64 d,.slice aw ts.length cw] 26)):=(Below.refl _ _).alloc (Nat.le_refl _) _
     have HB:=Za hB
     have hl4:((ts.length:Int) !=4)=true:=by simp;omega
     clear hin hv hB hlen
     go_enter Tryz.func20,Tryz.ntmps20
     go_wp2_with fail
     refine (HD.out _).mono ?_
     rintro e w1 ⟨rfl,hw1⟩
     subst hw1
     go_wp2_with fail
     go_ret
     exact⟨Zg HV.out.symm,HB.out⟩
theorem ZaW{d:Int}{ts:List Wb}(h:ZZ d ts=true):ts.length=4/\∀n,n<4->Za8 ts n=true:=by
 simp only [ZZ,Bool.and_eq_true,List.all_eq_true,List.mem_range,decide_eq_true_eq] at h
 exact⟨h.2.1,h.2.2⟩
theorem Zcd{d:Int}{ts:List Wb}(h:ZZ d ts=true){n:Nat}(hn:n<4):Zab (Zl ts n).1 (Zl ts n).2=true:=ZcF ((ZaW h).2 n hn)
theorem Zlx{d:Int}{ts:List Wb}(h:ZZ d ts=true){n:Nat}(hn:n<3):Zan (Zl ts n).1 (Zl ts (n+1)).1=true:=by
 have:=(ZaW h).2 (n+1) (by omega)
 rw [Za8,Bool.and_eq_true] at this
 simpa using this.2
theorem Zny(B:Nat)(am al ao:Option Addr)(cm cl cap:Nat)(ms:List Mk)(ls:List (List Int))(m:Mk)(w:World)(hI:Zac w B am cm ms al cl ls)(hb:Zn ms=true)(hv:Zs w ao m.2)(hsm:ZX ms):
 Calls Tryz.prog 199 #[.agg #[.int .i64 m.1,.slice ao m.2.length cap],.pointer (some ⟨B,0,none⟩)] w fun e w'=>e=.returned (.bool (!ZaH ms m))/\Below w.heap.size w w':=by
 obtain⟨W,hW⟩:∃W,w.alloc (.cells #[.int .i64 m.1,.slice ao m.2.length cap] 29)=W:=⟨_,rfl⟩
 have hB:Below w.heap.size w W:=by rw [<-hW];exact (Below.refl _ _).alloc (Nat.le_refl _) _
 have y0:W.cell? ⟨w.heap.size,0,none⟩=some (.int .i64 m.1):=by rw [<-hW];simp
 have y1:W.cell? ⟨w.heap.size,1,none⟩=some (.slice ao m.2.length cap):=by rw [<-hW];simp
 have hyl:w.heap.size<W.heap.size:=by rw [<-hW];simp
 have hIW:=hI.below hB
 have k0:=hIW.c0
 have k1:=hIW.c1
 have HP:=Za (Zis am al cm ls.length cl ms m.1 W hIW.mv hb)
 have HI:=Za hIW
 have HB:=Za hB
 have HV:=Za (hv.next hB)
 have HLK:Hid (ZaH ms m=true↔0<=Zv ms m.1/\mat ms (Zy ms m.1)=m.2):=Zbg
 have HSM:=Za hsm.2
 have HMB:=Za hb
 clear hI hIW hB hv hsm
 rcases hfz:decide (0<=Zv ms m.1) with _ | _
 · have hfz':¬0<=Zv ms m.1:=by simpa using hfz
   have HN:Hid (ZaH ms m=false):=by show _=_;rcases e:ZaH ms m with _ | _;rfl;exact absurd (HLK.out.1 e).1 hfz'
   rw [hfz] at HP
   rw [HN.out]
   clear hfz hfz' hb HLK HN
   generalize plc m.1 ms=j at *
   go_enter Tryz.func199,Tryz.ntmps199
   go_wp2_with fail
   refine HP.out.mono ?_
   rintro e w2 ⟨rfl,L2⟩
   have HL:=Za (Zd HB.out L2)
   clear L2 hW y0 y1 k0 k1
   go_wp2_with fail
   refine wp_region_quiet_lit (by kernel_rfl) (by kernel_rfl) ?_
   try simp only [List.append_eq,List.cons_append,List.nil_append]
   repeat (go_big_quiet_step (fail))
   refine wpQuiet_nil ?_
   intro _ hw'
   obtain⟨nq,hw''⟩:=hw'
   subst hw''
   go_wp2_with fail
   go_ret
   exact⟨rfl,below_drewN HL.out _⟩
 · have hfz':0<=Zv ms m.1:=by simpa using hfz
   obtain⟨za,zb,zc⟩:=ZQ hfz'
   have hpi:=Zgy hb hfz'
   rw [hfz,hpi] at HP
   have hj0:(0:Int)<=((Zy ms m.1:Nat):Int):=Int.natCast_nonneg _
   have hj1:((Zy ms m.1:Nat):Int)<(ms.length:Int):=by omega
   have HR:Hid (ZaH ms m=decide (mat ms (Zy ms m.1)=m.2)):=by
    show _=_
    rw [Bool.eq_iff_iff,HLK.out,decide_eq_true_eq]
    exact⟨fun h=>h.2,fun h=>⟨hfz',h⟩⟩
   rw [HR.out]
   clear hfz hfz' HLK HR hb zb zc hpi
   generalize Zy ms m.1=j at *
   obtain⟨r,hr⟩:∃r,decide (mat ms j=m.2)=r:=⟨_,rfl⟩
   rw [hr]
   have HRR:=Za hr
   clear hr
   go_enter Tryz.func199,Tryz.ntmps199
   go_wp2_with fail
   refine HP.out.mono ?_
   rintro e w2 ⟨rfl,L2⟩
   have hI2:=HI.out.below L2
   replace k0:=hI2.c0
   replace k1:=hI2.c1
   replace y0:=(L2.cell (p:=⟨w.heap.size,0,none⟩) hyl).trans y0
   replace y1:=(L2.cell (p:=⟨w.heap.size,1,none⟩) hyl).trans y1
   obtain⟨mb,mo,rfl,hmb,hms⟩:=Zbi.seg hI2.mv (by omega)
   obtain⟨-,qa,qc,qat,hqv⟩:=hms.at (i:=j) za
   have HPV:=Za (HV.out.next L2)
   have HSA:Hid (∀n,Calls Tryz.prog 201 #[.slice qa (mat ms j).length qc,.slice ao m.2.length cap] (w2.drewN n) fun e w''=>e=.returned (.bool (decide (mat ms j=m.2)))/\∃m',w''=w2.drewN m'):=fun n=>by
    refine (jeqS qa ao qc cap (mat ms j) m.2 (w2.drewN n) (Zs.drewN hqv n) (Zs.drewN HPV.out n) (HSM.out j)).mono ?_
    rintro e w'' ⟨he,m',hm⟩
    exact⟨he,n+m',by rw [hm];simp⟩
   have HL:=Za (Zd HB.out L2)
   clear L2 hW hI2 hms hqv HP
   rw [HRR.out] at HSA
   generalize (mat ms j).length=ql at *
   go_wp2_with fail
   refine wp_region_quiet_lit (by kernel_rfl) (by kernel_rfl) ?_
   try simp only [List.append_eq,List.cons_append,List.nil_append]
   repeat (go_big_quiet_step ((go_at_call 201;exact HSA.out _)))
   refine wpQuiet_nil ?_
   intro _ hw'
   obtain⟨nq,hw''⟩:=hw'
   subst hw''
   go_wp2_with fail
   go_ret
   exact⟨rfl,below_drewN HL.out _⟩
theorem ZoH(B:Nat)(am al ao:Option Addr)(cm cl cap:Nat)(ms:List Mk)(ls:List (List Int))(hi:List Mk)(w:World)(hI:Zac w B am cm ms al cl ls)(hb:Zn ms=true)(hsm:ZX ms)(hv:Zq w ao hi)(hsh:ZX hi):
 Calls Tryz.prog 215 #[.slice ao hi.length cap,.func (.func 199) #[] #[.pointer (some ⟨B,0,none⟩)]] w fun e w'=>(∃r:Int,e=.returned (.int .i64 r)/\decide (0<=r)=!Zan ms hi)/\Below w.heap.size w w':=by
 have HF:Hid (∀W k a c,Below w.heap.size w W->Zs W a (mat hi k)->Calls Tryz.prog 199 #[.agg #[.int .i64 (mid hi k),.slice a (mat hi k).length c],.pointer (some ⟨B,0,none⟩)] W fun e w'=>e=.returned (.bool (!ZaH ms (ZH hi k)))/\Below W.heap.size W w'):=fun W k a c L hva=>
  Zny B am al a cm cl c ms ls (ZH hi k) W (hI.below L) hb hva hsm
 have HV:=Za hv
 have hn:=hsh.1
 clear hI hb hv hsm hsh
 go_enter Tryz.func215,Tryz.ntmps215
 go_wp2_with fail
 go_loopw [8] (fun i wr=>∃k:Nat,k<=hi.length/\i=.int .i64 k/\(∀j,j<k->ZaH ms (ZH hi j)=true)/\Below w.heap.size w wr) (fun i _=>hi.length-(intOf i).toNat)
 case atStart=>exact⟨0,Nat.zero_le _,rfl,fun j hj=>by omega,Below.refl _ _⟩
 case round=>
  obtain⟨k,hk,rfl,hall,L⟩:=hrel
  have HA:=Za hall
  have HL:=Za L
  have hvr:=HV.out.next L
  clear hall L
  by_cases hlt:k<hi.length
  · obtain⟨b,off,rfl,hb,hs⟩:=Zbi.seg hvr (by omega)
    obtain⟨c0,pa,pc,c1,hpv⟩:=hs.at (i:=k) hlt
    have HN:=Za (HF.out wr k pa pc HL.out hpv)
    clear hs hvr hpv
    rcases he:ZaH ms (ZH hi k) with _ | _
    · have HX:=Za (ZfJ hlt he)
      rw [he] at HN
      clear he
      generalize mid hi k=x at *
      generalize (mat hi k).length=xl at *
      go_wp2_with fail
      refine HN.out.mono ?_
      rintro e w2 ⟨rfl,L2⟩
      have HL2:=Za (Zd HL.out L2)
      clear L2
      go_wp2_with fail
      go_ret
      exact⟨⟨(k:Int),rfl,by rw [HX.out];simp⟩,HL2.out⟩
    · rw [he] at HN
      have HE:=Za he
      clear he
      generalize mid hi k=x at *
      generalize (mat hi k).length=xl at *
      go_wp2_with fail
      refine HN.out.mono ?_
      rintro e w2 ⟨rfl,L2⟩
      have HL2:=Za (Zd HL.out L2)
      clear L2
      go_wp2_with fail
      go_roundw
      case rel=>exact⟨k+1,by omega,by go_num,fun j hj=>by
       rcases Nat.lt_or_ge j k with h | h
       · exact HA.out j h
       · rw [show j=k by omega];exact HE.out,HL2.out⟩
      case measure=>simp [intOf];omega
  · go_wp2_with fail
    go_ret
    obtain rfl:k=hi.length:=by omega
    exact⟨⟨-1,rfl,by rw [Zev HA.out];rfl⟩,HL.out⟩
theorem Znz(B:Nat)(am al ao:Option Addr)(cm cl cap:Nat)(ms:List Mk)(ls:List (List Int))(hi:List Mk)(w:World)(hI:Zac w B am cm ms al cl ls)(hb:Zn ms=true)(hsm:ZX ms)(hv:Zq w ao hi)(hsh:ZX hi):
 Calls Tryz.prog 137 #[.slice ao hi.length cap,.func (.func 199) #[] #[.pointer (some ⟨B,0,none⟩)]] w fun e w'=>e=.returned (.bool (!Zan ms hi))/\Below w.heap.size w w':=by
 have HI:=Za (ZoH B am al ao cm cl cap ms ls hi w hI hb hsm hv hsh)
 clear hv hI
 go_enter Tryz.func137,Tryz.ntmps137
 go_wp2_with fail
 refine HI.out.mono ?_
 rintro e w2 ⟨⟨r,rfl,hr⟩,L2⟩
 have HL2:=Za L2
 clear L2
 go_wp2_with fail
 go_ret
 exact⟨Zg (by rw [<-hr]),HL2.out⟩
theorem Zmw(am al am' al':Option Addr)(cm cl cm' cl' nl':Nat)(ms:List Mk)(ls:List (List Int))(hi:List Mk)(w:World)(hm:Zq w am ms)(hl:Z8 w al ls)(hb:Zn ms=true)(hsm:ZX ms)(hv:Zq w am' hi)(hsh:ZX hi):
 Calls Tryz.prog 113 #[.agg #[.slice am ms.length cm,.slice al ls.length cl],.agg #[.slice am' hi.length cm',.slice al' nl' cl']] w fun e w'=>e=.returned (.bool (Zan ms hi))/\Below w.heap.size w w':=by
 obtain⟨W1,hW1⟩:∃W,w.alloc (.cells #[.slice am ms.length cm,.slice al ls.length cl] 47)=W:=⟨_,rfl⟩
 have hB1:Below w.heap.size w W1:=by rw [<-hW1];exact (Below.refl _ _).alloc (Nat.le_refl _) _
 have hI1:Zac W1 w.heap.size am cm ms al cl ls:=by rw [<-hW1];exact Zac.box hm hl
 obtain⟨W,hW⟩:∃W,W1.alloc (.cells #[.slice am' hi.length cm',.slice al' nl' cl'] 47)=W:=⟨_,rfl⟩
 have hB2:Below W1.heap.size W1 W:=by rw [<-hW];exact (Below.refl _ _).alloc (Nat.le_refl _) _
 have z0:W.cell? ⟨W1.heap.size,0,none⟩=some (.slice am' hi.length cm'):=by rw [<-hW];simp
 have HB:=Za (Zd hB1 hB2)
 have HC:=Za (Znz w.heap.size am al am' cm cl cm' ms ls hi W (hI1.below hB2) hb hsm (hv.next HB.out) hsh)
 clear hm hl hB1 hI1 hB2 hv hb hsm hsh
 generalize Zan ms hi=r at *
 go_enter Tryz.func113,Tryz.ntmps113
 go_wp2_with fail
 refine HC.out.mono ?_
 rintro e w2 ⟨rfl,L2⟩
 have HL2:=Za (Zd HB.out L2)
 clear L2 hW hW1
 go_wp2_with fail
 go_ret
 exact⟨by simp,HL2.out⟩
theorem Zh9(aw:Option Addr)(cw:Nat)(d:Int)(ts:List Wb)(w:World)(hv:Zz true w aw ts)(hsm:ZaB ts)(hin:inR d 0 1000002=true)(hlen:ts.length=4):
 Calls Tryz.prog 19 #[.agg #[.int .i64 d,.slice aw 4 cw]] w fun e w'=>e=.returned (.bool (ZZ d ts))/\Below w.heap.size w w':=by
 obtain⟨W,hW⟩:∃W,w.alloc (.cells #[.int .i64 d,.slice aw 4 cw] 26)=W:=⟨_,rfl⟩
 have hB:Below w.heap.size w W:=by rw [<-hW];exact (Below.refl _ _).alloc (Nat.le_refl _) _
 have hI:ZfL true W w.heap.size d aw cw ts:=by rw [<-hW,<-hlen];exact ZfL.box hv
 have HD:=Za (ZcD d W)
 rw [hin] at HD
 have k0:=hI.c0
 have k1:=hI.c1
 rw [hlen] at k1
 have HB:=Za hB
 have HI:=Za hI
 have HSM:=Za hsm.2
 have HLEN:=Za hlen
 have HIN:=Za hin
 clear hv hsm hB hI hin hlen
 go_enter Tryz.func19,Tryz.ntmps19
 go_wp2_with fail
 refine HD.out.mono ?_
 rintro e w1 ⟨rfl,hw1⟩
 subst hw1
 go_wp2_with fail
 clear k0 HD k1
 go_loopw [18] (fun nv wr=>∃n:Nat,n<=4/\nv=.int .i64 n/\(∀j,j<n->Za8 ts j=true)/\Below w1.heap.size w1 wr) (fun nv _=>4-(intOf nv).toNat)
 case atStart=>exact⟨0,by omega,rfl,fun j hj=>by omega,Below.refl _ _⟩
 case round=>
  obtain⟨n,hn,rfl,hall,L⟩:=hrel
  have HA:=Za hall
  have HL:=Za L
  have hIr:=HI.out.below L
  clear hall L
  by_cases hlt:n<4
  · have hlti:(n:Int)<4:=by omega
    have hn0:(0:Int)<=(n:Int):=Int.natCast_nonneg _
    obtain⟨b,off,am,cm,al,cl,rfl,hb,c0,c1,hm,hc,hcap⟩:=hIr.web (n:=n) (by rw [HLEN.out];exact hlt)
    have k1:=hIr.c1
    rw [HLEN.out] at k1
    obtain⟨V,hV⟩:∃V,wr.alloc (.cells #[.slice am (Zl ts n).1.length cm,.slice al (Zl ts n).2.length cl] 47)=V:=⟨_,rfl⟩
    have LV:Below wr.heap.size wr V:=by rw [<-hV];exact (Below.refl _ _).alloc (Nat.le_refl _) _
    have hyl:wr.heap.size<V.heap.size:=by rw [<-hV];simp
    have y0:V.cell? ⟨wr.heap.size,0,none⟩=some (.slice am (Zl ts n).1.length cm):=by rw [<-hV];simp
    have y1:V.cell? ⟨wr.heap.size,1,none⟩=some (.slice al (Zl ts n).2.length cl):=by rw [<-hV];simp
    have HXl:=hIr.lt
    have k1':=(LV.cell (p:=⟨w.heap.size,1,none⟩) HXl).trans k1
    have HMC:=Za (And.intro (hm.next LV) (hc.next LV))
    have HW:Hid (∀W',Below V.heap.size V W'->Calls Tryz.prog 112 #[.agg #[.slice am (Zl ts n).1.length cm,.slice al (Zl ts n).2.length cl]] W' fun e w'=>e=.returned (.bool (Zab (Zl ts n).1 (Zl ts n).2))/\Below W'.heap.size W' w'):=fun W' L'=>
     Zhl am cm (Zl ts n).1 al cl (Zl ts n).2 W' (HMC.out.1.next L') (HMC.out.2.next L') (HSM.out n).1 (HSM.out n).2 (hcap rfl).1 (hcap rfl).2
    have HLV:=Za (Zd HL.out LV)
    obtain⟨Y,hY⟩:∃Y,Y=wr.heap.size:=⟨_,rfl⟩
    have HIV:=Za (hIr.below LV)
    clear hm hc hIr LV k1
    have HLA:=Za (And.intro (HSM.out n).1 (HSM.out n).2)
    rw [<-hY] at hyl y0 y1
    rcases hwb:Zab (Zl ts n).1 (Zl ts n).2 with _ | _
    · rw [hwb] at HW
      have HV:=Za (ZeP (d:=d) hlt (Zgn hwb))
      have HK:Hid (∀W',Below V.heap.size V W'->W'.cell? ⟨Y,0,none⟩=some (.slice am (Zl ts n).1.length cm)/\W'.cell? ⟨Y,1,none⟩=some (.slice al (Zl ts n).2.length cl)):=fun W' L'=>⟨(L'.cell (p:=⟨Y,0,none⟩) hyl).trans y0,(L'.cell (p:=⟨Y,1,none⟩) hyl).trans y1⟩
      clear hwb
      generalize (Zl ts n).1.length=l1 at *
      generalize (Zl ts n).2.length=l2 at *
      go_wp2_with fail
      rw [<-hY]
      clear hV c0 c1 k1' hY
      refine Zt (S:=(fun w'=>w'.cell? ⟨Y,0,none⟩=some (.slice am l1 cm)/\w'.cell? ⟨Y,1,none⟩=some (.slice al l2 cl))) (fuel:=17) [0] (by kernel_rfl) (by kernel_rfl) (by kernel_rfl) (by kernel_rfl) (HK.out _ ((Below.refl V.heap.size V).drew)) (fun _=>?_)
      iterate 1
       refine⟨_,rfl,?_⟩
       first
        | refine⟨undef,Or.inr ⟨by rfl,rfl⟩,?_⟩
        | (apply Exists.intro
           refine⟨Or.inl ⟨by rfl,fun w' hw'=>?_⟩,?_⟩
           · first
             | (go_simp;done)
             | (go_simp;with_reducible rfl))
       simp only [Act.put,List.getElem_toArray,List.getElem_cons_zero,List.setIfInBounds_toArray,List.set_cons_zero,List.set_cons_succ]
      refine Zc 1 (by kernel_rfl) rfl (fun K hK=>?_)
      go_simp
      refine (HW.out _ ((Below.refl V.heap.size V).drew)).mono ?_
      rintro e w2 ⟨rfl,L2'⟩
      have L2:Below V.heap.size V w2:=Below.trans ((Below.refl V.heap.size V).drew) L2'
      refine hK.out _ _ (HK.out _ L2) (fun _=>?_)
      clear hK K L2'
      refine Zo 4 [2,3,4,5,6,7,8,9,10,11,12,13] (by kernel_rfl) (by kernel_rfl) (by kernel_rfl) (HK.out _ L2) ?_
      iterate 12
       refine⟨_,rfl,?_⟩
       first
        | refine⟨undef,Or.inr ⟨by rfl,rfl⟩,?_⟩
        | (apply Exists.intro
           refine⟨Or.inl ⟨by rfl,fun w' hw'=>?_⟩,?_⟩
           · first
             | (go_simp;done)
             | (go_simp;with_reducible rfl))
       simp only [Act.put,List.getElem_toArray,List.getElem_cons_succ,List.getElem_cons_zero,List.setIfInBounds_toArray,List.set_cons_zero,List.set_cons_succ]
      refine Zc 14 (by kernel_rfl) rfl (fun K hK=>?_)
      go_simp
      refine hK.out _ _ (HK.out _ L2) (fun _=>?_)
      clear hK K
      refine ZB [15,16,17] (by kernel_rfl) (by kernel_rfl) (by kernel_rfl) (by kernel_rfl) (HK.out _ L2) ?_
      iterate 3
       refine⟨_,rfl,?_⟩
       first
        | refine⟨undef,Or.inr ⟨by rfl,rfl⟩,?_⟩
        | (apply Exists.intro
           refine⟨Or.inl ⟨by rfl,fun w' hw'=>?_⟩,?_⟩
           · first
             | (go_simp;done)
             | (go_simp;with_reducible rfl))
       simp only [Act.put,List.getElem_toArray,List.getElem_cons_succ,List.getElem_cons_zero,List.setIfInBounds_toArray,List.set_cons_zero,List.set_cons_succ]
      refine NoPanic.normal ?_
      refine NoPanic.normal ?_
      have HF:=Za (Zd HB.out (Zd HLV.out L2))
      clear L2 HW HK y0 y1
      go_wp2_with fail
      go_ret
      exact⟨Zg HV.out.symm,HF.out⟩
    · rw [hwb] at HW
      have HWB:=Za hwb
      clear hwb
      rcases Nat.eq_zero_or_pos n with hz | hpos
      · have hgn:¬((n:Int) > 0):=by omega
        have hgnd:decide ((n:Int) > 0)=false:=decide_eq_false hgn
        have hgne:decide (0<(n:Int))=false:=decide_eq_false hgn
        have hgnf:decide (0<n)=false:=decide_eq_false (by omega)
        have HTN:Hid (Za8 ts n=true):=Zde HWB.out (fun h=>by omega)
        have HK:Hid (∀W',Below V.heap.size V W'->W'.cell? ⟨Y,0,none⟩=some (.slice am (Zl ts n).1.length cm)/\W'.cell? ⟨Y,1,none⟩=some (.slice al (Zl ts n).2.length cl)):=fun W' L'=>⟨(L'.cell (p:=⟨Y,0,none⟩) hyl).trans y0,(L'.cell (p:=⟨Y,1,none⟩) hyl).trans y1⟩
        generalize (Zl ts n).1.length=l1 at *
        generalize (Zl ts n).2.length=l2 at *
        clear hz
        go_wp2_with fail
        rw [<-hY]
        clear hV c0 c1 k1' hY
        refine Zt (S:=(fun w'=>w'.cell? ⟨Y,0,none⟩=some (.slice am l1 cm)/\w'.cell? ⟨Y,1,none⟩=some (.slice al l2 cl))) (fuel:=17) [0] (by kernel_rfl) (by kernel_rfl) (by kernel_rfl) (by kernel_rfl) (HK.out _ ((Below.refl V.heap.size V).drew)) (fun _=>?_)
        iterate 1
         refine⟨_,rfl,?_⟩
         first
          | refine⟨undef,Or.inr ⟨by rfl,rfl⟩,?_⟩
          | (apply Exists.intro
             refine⟨Or.inl ⟨by rfl,fun w' hw'=>?_⟩,?_⟩
             · first
               | (go_simp;done)
               | (go_simp;with_reducible rfl))
         simp only [Act.put,List.getElem_toArray,List.getElem_cons_zero,List.setIfInBounds_toArray,List.set_cons_zero,List.set_cons_succ]
        refine Zc 1 (by kernel_rfl) rfl (fun K hK=>?_)
        go_simp
        refine (HW.out _ ((Below.refl V.heap.size V).drew)).mono ?_
        rintro e w2 ⟨rfl,L2'⟩
        have L2:Below V.heap.size V w2:=Below.trans ((Below.refl V.heap.size V).drew) L2'
        refine hK.out _ _ (HK.out _ L2) (fun _=>?_)
        clear hK K L2'
        refine Zo 4 [2,3,4,5,6,7,8,9,10,11,12,13] (by kernel_rfl) (by kernel_rfl) (by kernel_rfl) (HK.out _ L2) ?_
        iterate 12
         refine⟨_,rfl,?_⟩
         first
          | refine⟨undef,Or.inr ⟨by rfl,rfl⟩,?_⟩
          | (apply Exists.intro
             refine⟨Or.inl ⟨by rfl,fun w' hw'=>?_⟩,?_⟩
             · first
               | (go_simp;done)
               | (go_simp;with_reducible rfl))
         simp only [Act.put,List.getElem_toArray,List.getElem_cons_succ,List.getElem_cons_zero,List.setIfInBounds_toArray,List.set_cons_zero,List.set_cons_succ]
        refine Zc 14 (by kernel_rfl) rfl (fun K hK=>?_)
        go_simp
        refine hK.out _ _ (HK.out _ L2) (fun _=>?_)
        clear hK K
        refine ZB [15,16,17] (by kernel_rfl) (by kernel_rfl) (by kernel_rfl) (by kernel_rfl) (HK.out _ L2) ?_
        iterate 3
         refine⟨_,rfl,?_⟩
         first
          | refine⟨undef,Or.inr ⟨by rfl,rfl⟩,?_⟩
          | (apply Exists.intro
             refine⟨Or.inl ⟨by rfl,fun w' hw'=>?_⟩,?_⟩
             · first
               | (go_simp;done)
               | (go_simp;with_reducible rfl))
         simp only [Act.put,List.getElem_toArray,List.getElem_cons_succ,List.getElem_cons_zero,List.setIfInBounds_toArray,List.set_cons_zero,List.set_cons_succ]
        refine NoPanic.normal ?_
        refine NoPanic.normal ?_
        have HF:=Za (Zd HLV.out L2)
        clear L2 HW HK y0 y1
        go_wp2_with fail
        go_roundw
        case rel=>exact⟨n+1,by omega,by go_num,fun j hj=>by
         rcases Nat.lt_or_ge j n with h | h
         · exact HA.out j h
         · rw [show j=n by omega];exact HTN.out,HF.out⟩
        case measure=>simp [intOf];omega
      · have hgn:(n:Int) > 0:=by omega
        have hgnd:decide ((n:Int) > 0)=true:=decide_eq_true hgn
        have hgne:decide (0<(n:Int))=true:=decide_eq_true hgn
        have hgnf:decide (0<n)=true:=decide_eq_true hpos
        obtain⟨p,hp⟩:∃p,n-1=p:=⟨_,rfl⟩
        have hwp:IntKind.i64.wrap ((n:Int)-1)=(p:Int):=by rw [IntWalk.i64_in _ ⟨by omega,by omega⟩];omega
        have hp0:(0:Int)<=(p:Int):=Int.natCast_nonneg _
        have hp4:(p:Int)<4:=by omega
        obtain⟨b3,off3,am3,cm3,al3,cl3,eb3,hb3,e0,e1,hm3,hc3,-⟩:=HIV.out.web (n:=p) (by rw [HLEN.out];omega)
        injection eb3 with eb3
        injection eb3 with eb31 eb32
        subst eb31 eb32
        have HXV:=HIV.out.lt
        have HK:Hid (∀W',Below V.heap.size V W'->W'.cell? ⟨Y,0,none⟩=some (.slice am (Zl ts n).1.length cm)/\W'.cell? ⟨Y,1,none⟩=some (.slice al (Zl ts n).2.length cl)/\W'.cell? ⟨w.heap.size,1,none⟩=some (.slice (some ⟨b,off,none⟩) 4 cw)/\W'.cell? ⟨b,off+p*2,none⟩=some (.slice am3 (Zl ts p).1.length cm3)/\W'.cell? ⟨b,off+p*2+1,none⟩=some (.slice al3 (Zl ts p).2.length cl3)):=fun W' L'=>⟨(L'.cell (p:=⟨Y,0,none⟩) hyl).trans y0,(L'.cell (p:=⟨Y,1,none⟩) hyl).trans y1,(L'.cell (p:=⟨w.heap.size,1,none⟩) HXV).trans k1',(L'.cell (p:=⟨b,off+p*2,none⟩) hb3).trans e0,(L'.cell (p:=⟨b,off+p*2+1,none⟩) hb3).trans e1⟩
        have HMP:Hid (Zn (Zl ts p).1=true):=ZJ (ZcF (HA.out p (by omega)))
        have HBE:Hid (∀W',Below V.heap.size V W'->Calls Tryz.prog 113 #[.agg #[.slice am3 (Zl ts p).1.length cm3,.slice al3 (Zl ts p).2.length cl3],.agg #[.slice am (Zl ts n).1.length cm,.slice al (Zl ts n).2.length cl]] W' fun e w'=>e=.returned (.bool (Zan (Zl ts p).1 (Zl ts n).1))/\Below W'.heap.size W' w'):=fun W' L'=>
         Zmw am3 al3 am al cm3 cl3 cm cl (Zl ts n).2.length (Zl ts p).1 (Zl ts p).2 (Zl ts n).1 W' (hm3.next L') (hc3.next L') HMP.out (HSM.out p).1 (HMC.out.1.next L') (HSM.out n).1
        have HTY:Hid (Zan (Zl ts p).1 (Zl ts n).1=true->Za8 ts n=true):=fun h=>Zde HWB.out (fun _=>by rw [hp];exact h)
        have HTF:Hid (Zan (Zl ts p).1 (Zl ts n).1=false->ZZ d ts=false):=fun h=>ZeP hlt (ZfK hpos (by rw [hp];exact h))
        have y00:=y0
        have y11:=y1
        clear hm3 hc3
        obtain⟨r,hr⟩:∃r,Zan (Zl ts p).1 (Zl ts n).1=r:=⟨_,rfl⟩
        rw [hr] at HBE HTY HTF
        clear hr
        generalize (Zl ts n).1.length=l1 at *
        generalize (Zl ts n).2.length=l2 at *
        generalize (Zl ts p).1.length=l3 at *
        generalize (Zl ts p).2.length=l4 at *
        clear y00 y11
        go_wp2_with fail
        rw [<-hY]
        clear hV c0 c1 hY hp
        refine Zt (S:=(fun w'=>w'.cell? ⟨Y,0,none⟩=some (.slice am l1 cm)/\w'.cell? ⟨Y,1,none⟩=some (.slice al l2 cl)/\w'.cell? ⟨w.heap.size,1,none⟩=some (.slice (some ⟨b,off,none⟩) 4 cw)/\w'.cell? ⟨b,off+p*2,none⟩=some (.slice am3 l3 cm3)/\w'.cell? ⟨b,off+p*2+1,none⟩=some (.slice al3 l4 cl3))) (fuel:=17) [0] (by kernel_rfl) (by kernel_rfl) (by kernel_rfl) (by kernel_rfl) (HK.out _ ((Below.refl V.heap.size V).drew)) (fun _=>?_)
        iterate 1
         refine⟨_,rfl,?_⟩
         first
          | refine⟨undef,Or.inr ⟨by rfl,rfl⟩,?_⟩
          | (apply Exists.intro
             refine⟨Or.inl ⟨by rfl,fun w' hw'=>?_⟩,?_⟩
             · first
               | (go_simp;done)
               | (go_simp;with_reducible rfl))
         simp only [Act.put,List.getElem_toArray,List.getElem_cons_zero,List.setIfInBounds_toArray,List.set_cons_zero,List.set_cons_succ]
        refine Zc 1 (by kernel_rfl) rfl (fun K hK=>?_)
        go_simp
        refine (HW.out _ ((Below.refl V.heap.size V).drew)).mono ?_
        rintro e w2 ⟨rfl,L2'⟩
        have L2:Below V.heap.size V w2:=Below.trans ((Below.refl V.heap.size V).drew) L2'
        refine hK.out _ _ (HK.out _ L2) (fun _=>?_)
        clear hK K L2'
        refine Zo 4 [2,3,4,5,6,7,8,9,10,11,12,13] (by kernel_rfl) (by kernel_rfl) (by kernel_rfl) (HK.out _ L2) ?_
        iterate 12
         refine⟨_,rfl,?_⟩
         first
          | refine⟨undef,Or.inr ⟨by rfl,rfl⟩,?_⟩
          | (apply Exists.intro
             refine⟨Or.inl ⟨by rfl,fun w' hw'=>?_⟩,?_⟩
             · first
               | (go_simp;done)
               | (go_simp;with_reducible rfl))
         simp only [Act.put,List.getElem_toArray,List.getElem_cons_succ,List.getElem_cons_zero,List.setIfInBounds_toArray,List.set_cons_zero,List.set_cons_succ]
        refine Zc 14 (by kernel_rfl) rfl (fun K hK=>?_)
        go_simp
        refine (HBE.out _ L2).mono ?_
        rintro e w3 ⟨rfl,L3'⟩
        have L3:Below V.heap.size V w3:=Zd L2 L3'
        refine hK.out _ _ (HK.out _ L3) (fun _=>?_)
        clear hK K L3'
        refine ZB [15,16,17] (by kernel_rfl) (by kernel_rfl) (by kernel_rfl) (by kernel_rfl) (HK.out _ L3) ?_
        iterate 3
         refine⟨_,rfl,?_⟩
         first
          | refine⟨undef,Or.inr ⟨by rfl,rfl⟩,?_⟩
          | (apply Exists.intro
             refine⟨Or.inl ⟨by rfl,fun w' hw'=>?_⟩,?_⟩
             · first
               | (go_simp;done)
               | (go_simp;with_reducible rfl))
         simp only [Act.put,List.getElem_toArray,List.getElem_cons_succ,List.getElem_cons_zero,List.setIfInBounds_toArray,List.set_cons_zero,List.set_cons_succ]
        refine NoPanic.normal ?_
        refine NoPanic.normal ?_
        have HF:=Za (Zd HLV.out L3)
        clear L2 L3 HW HK HBE y0 y1 e0 e1 k1'
        cases r with
        | false=>
          have HV:=Za (HTF.out rfl)
          go_wp2_with fail
          go_ret
          exact⟨Zg HV.out.symm,Zd HB.out HF.out⟩
        | true=>
          have HTN:=Za (HTY.out rfl)
          go_wp2_with fail
          go_roundw
          case rel=>exact⟨n+1,by omega,by go_num,fun j hj=>by
           rcases Nat.lt_or_ge j n with h | h
           · exact HA.out j h
           · rw [show j=n by omega];exact HTN.out,HF.out⟩
          case measure=>simp [intOf];omega
  · have hlti:¬(n:Int)<4:=by omega
    obtain rfl:n=4:=by omega
    have HV:=Za (ZeR HIN.out HLEN.out HA.out)
    clear hIr
    go_wp2_with fail
    go_ret
    exact⟨Zg HV.out.symm,Zd HB.out HL.out⟩
theorem Zht(aw:Option Addr)(cw:Nat)(d:Int)(ts:List Wb)(w:World)(hv:Zz true w aw ts)(hsm:ZaB ts):
 Calls Tryz.prog 19 #[.agg #[.int .i64 d,.slice aw ts.length cw]] w fun e w'=>e=.returned (.bool (ZZ d ts))/\Below w.heap.size w w':=by
 rcases hin:inR d 0 1000002 with _ | _
 · have HD:=Za (fun W=>ZcD d W)
   rw [hin] at HD
   have HV:=Za (Zgl (ts:=ts) hin)
   have hB:Below w.heap.size w (w.alloc (.cells #[.int .i64 d,.slice aw ts.length cw] 26)):=(Below.refl _ _).alloc (Nat.le_refl _) _
   have HB:=Za hB
   clear hin hv hB
   go_enter Tryz.func19,Tryz.ntmps19
   go_wp2_with fail
   refine (HD.out _).mono ?_
   rintro e w1 ⟨rfl,hw1⟩
   subst hw1
   go_wp2_with fail
   go_ret
   exact⟨Zg HV.out.symm,HB.out⟩
 · by_cases hlen:ts.length=4
   · rw [hlen]
     exact Zh9 aw cw d ts w hv hsm hin hlen
   · have HD:=Za (fun W=>ZcD d W)
     rw [hin] at HD
     have HV:=Za (Zgm (d:=d) hlen)
     have hB:Below w.heap.size w (w.alloc (.cells #[.int .i64 d,.slice aw ts.length cw] 26)):=(Below.refl _ _).alloc (Nat.le_refl _) _
     have HB:=Za hB
     have hl4:((ts.length:Int) !=4)=true:=by simp;omega
     clear hin hv hB hlen
     go_enter Tryz.func19,Tryz.ntmps19
     go_wp2_with fail
     refine (HD.out _).mono ?_
     rintro e w1 ⟨rfl,hw1⟩
     subst hw1
     go_wp2_with fail
     go_ret
     exact⟨Zg HV.out.symm,HB.out⟩
end Go.Proofs.YtaaagmgglolibaaGreat
