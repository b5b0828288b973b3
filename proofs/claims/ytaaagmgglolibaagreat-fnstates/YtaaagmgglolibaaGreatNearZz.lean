import Derived.Test.YtaaagmgglolibaaGreatPutZz
import Derived.Test.YtaaagmgglolibaaGreatMCopyZz
set_option maxRecDepth 100000
set_option maxHeartbeats 2000000
namespace Go.Proofs.YtaaagmgglolibaaGreat
open Go Go.RowKit
theorem ZkM{ms:List Mk}{q:List Int}(h:Zn ms=true)(hq:okB q=true)(h0:ms.length=0):Zap ms q=true:=by simp [Zap,h,hq,h0]
theorem ZkN{ms:List Mk}{q:List Int}(h:Zn ms=true)(hq:okB q=true)(h0:(mat ms 0).length=q.length):Zap ms q=true:=by simp [Zap,h,hq,h0]
theorem ZkO{ms:List Mk}{q:List Int}(h:ms.length≠0)(h0:(mat ms 0).length≠q.length):Zap ms q=false:=by
 simp [Zap,h0]
 intro _ _
 simpa using h
theorem sTold(ao ao':Option Addr)(cap cap':Nat)(ms:List Mk)(q:List Int)(w:World)(hv:Zq w ao ms)(hv':Zs w ao' q)(hsm:ZX ms)(hq:q.length<=1048576):
 Calls Tryz.prog 118 #[.slice ao ms.length cap,.slice ao' q.length cap'] w fun e w'=>e=.returned (.bool (Zap ms q))/\∃n,w'=w.drewN n:=by
 have HC:=Za (Zgv ao cap ms w hv hsm)
 rcases hm:Zn ms with _ | _
 · have HV:=Za (Zf6 (q:=q) hm)
   rw [hm] at HC
   go_enter Tryz.func118,Tryz.ntmps118
   go_wp2_with fail
   refine HC.out.mono ?_
   rintro e w1 ⟨rfl,n1,rfl⟩
   go_wp2_with fail
   go_ret
   exact⟨Zg HV.out.symm,n1,rfl⟩
 · rw [hm] at HC
   rcases hok:okB q with _ | _
   · have HV:=Za (ZhE (ms:=ms) hok)
     have HP:=fun n=>Za (sOk ao' cap' q (w.drewN n) (hv'.drewN n) hq)
     rw [hok] at HP
     go_enter Tryz.func118,Tryz.ntmps118
     go_wp2_with fail
     refine HC.out.mono ?_
     rintro e w1 ⟨rfl,n1,rfl⟩
     go_wp2_with fail
     refine (HP n1).out.mono ?_
     rintro e w2 ⟨rfl,rfl⟩
     go_wp2_with fail
     go_ret
     exact⟨Zg HV.out.symm,n1,rfl⟩
   · have HP:=fun n=>Za (sOk ao' cap' q (w.drewN n) (hv'.drewN n) hq)
     rw [hok] at HP
     by_cases h0:ms.length=0
     · have HV:=Za (ZkM hm hok h0)
       have hb0:((ms.length:Int) ==0)=true:=by simp;simpa using h0
       clear h0
       go_enter Tryz.func118,Tryz.ntmps118
       go_wp2_with fail
       refine HC.out.mono ?_
       rintro e w1 ⟨rfl,n1,rfl⟩
       go_wp2_with fail
       refine (HP n1).out.mono ?_
       rintro e w2 ⟨rfl,rfl⟩
       go_wp2_with fail
       go_ret
       exact⟨Zg HV.out.symm,n1,rfl⟩
     · have hb0:((ms.length:Int) ==0)=false:=by simp;simpa using h0
       have hne:ms≠[]:=by intro h;subst h;simp at h0
       obtain⟨b,off,rfl,hb,hs⟩:=Zbi.seg hv (by omega)
       obtain⟨-,ae,ce,hc1,-⟩:=hs.at (i:=0) (by omega)
       rw [Nat.zero_mul,Nat.add_zero] at hc1
       have hpos:(0:Int)<(ms.length:Int):=by omega
       have hpos2:0<ms.length:=by omega
       by_cases hl:(mat ms 0).length=q.length
       · have HV:=Za (ZkN hm hok hl)
         have hlb:(((mat ms 0).length:Int) ==(q.length:Int))=true:=by simp [hl]
         clear hl h0
         go_enter Tryz.func118,Tryz.ntmps118
         go_wp2_with fail
         refine HC.out.mono ?_
         rintro e w1 ⟨rfl,n1,rfl⟩
         go_wp2_with fail
         refine (HP n1).out.mono ?_
         rintro e w2 ⟨rfl,rfl⟩
         go_wp2_with fail
         go_ret
         exact⟨Zg HV.out.symm,n1,rfl⟩
       · have HV:=Za (ZkO h0 hl)
         have hlb:(((mat ms 0).length:Int) ==(q.length:Int))=false:=by simp;omega
         clear hl h0
         go_enter Tryz.func118,Tryz.ntmps118
         go_wp2_with fail
         refine HC.out.mono ?_
         rintro e w1 ⟨rfl,n1,rfl⟩
         go_wp2_with fail
         refine (HP n1).out.mono ?_
         rintro e w2 ⟨rfl,rfl⟩
         go_wp2_with fail
         go_ret
         exact⟨Zg HV.out.symm,n1,rfl⟩
theorem ZO(ms:List Mk)(q:List Int):(Z0 ms q).length=ms.length:=by simp [Z0]
theorem ZfQ(ms:List Mk)(q:List Int)(k:Nat)(hk:k<ms.length):ZU ((Z0 ms q).take (k+1))=ZbR (ZU ((Z0 ms q).take k)) (mid ms k,ZaY (mat ms k) q):=by
 have:(Z0 ms q).take (k+1)=(Z0 ms q).take k++[(mid ms k,ZaY (mat ms k) q)]:=by
  rw [List.take_add_one]
  congr 1
  simp [Z0,hk,Zkb,mid,mat,List.getD]
 rw [this,Zi3]
theorem sAll(ao ao':Option Addr)(cap cap':Nat)(ms:List Mk)(q:List Int)(w:World)(hv:Zq w ao ms)(hv':Zs w ao' q)(hsm:ZX ms)(hq:q.length<=1048576):
 Calls Tryz.prog 220 #[.slice ao ms.length cap,.slice ao' q.length cap'] w fun e w'=>∃g c,e=.returned (.slice (some ⟨g,0,none⟩) (ZU (Z0 ms q)).length c)/\ZN w.heap.size w' g c (ZU (Z0 ms q))/\Below w.heap.size w w':=by
 obtain⟨hn,hat⟩:=hsm
 have R0:=Za (ZN.start w w.heap.size (Nat.le_refl _))
 have L0:Below w.heap.size w (w.alloc (.cells #[] 66)):=(Below.refl _ _).alloc (Nat.le_refl _) _
 go_enter Tryz.func220,Tryz.ntmps220
 go_wp2_with fail
 go_loopw [5,6] (fun v i wr=>∃(k g c:Nat) (hs:List Ht),k<=ms.length/\i=.int .i64 k/\v=.slice (some ⟨g,0,none⟩) hs.length c/\hs=ZU ((Z0 ms q).take k)/\ZN w.heap.size wr g c hs/\Below w.heap.size w wr) (fun _ i _=>ms.length-(intOf i).toNat)
 case atStart=>exact⟨0,w.heap.size,0,[],Nat.zero_le _,rfl,rfl,rfl,R0.out,L0⟩
 case round=>
  obtain⟨k,g,c,hs,hk,rfl,rfl,ehs,hrow,L⟩:=hrel
  have HEH:=Za ehs
  have hlen:hs.length=k:=by rw [ehs,Zd1,List.length_take,ZO];omega
  have HLEN:=Za hlen
  have HR:=Za hrow
  have HLL:=Za L
  clear ehs hlen hrow
  by_cases hlt:k<ms.length
  · obtain⟨b,off,rfl,hb,hseg⟩:=Zbi.seg hv (by omega)
    obtain⟨hc0,ae,ce,hc1,hve⟩:=(hseg.below hb (Nat.le_refl _) L).at hlt
    have hqw:=Zs.next hv' L
    have hi0:(0:Int)<=(k:Int):=Int.natCast_nonneg _
    have hi1:(k:Int)<(ms.length:Int):=by omega
    have hz:=L.size
    have hbw:b<wr.heap.size:=by omega
    have HF:=Za (sFar ae ao' ce cap' (mat ms k) q wr.drew hve.drew hqw.drew (hat k) hq)
    have HP:Hid (∀W,ZN w.heap.size W g c hs->Calls Tryz.prog 253 #[.slice (some ⟨g,0,none⟩) hs.length c,.agg #[.int .i64 (mid ms k),.int .i64 (ZaY (mat ms k) q)]] W fun e w'=>∃g' c',e=.returned (.slice (some ⟨g',0,none⟩) (ZbR hs (mid ms k,ZaY (mat ms k) q)).length c')/\ZN W.heap.size w' g' c' (ZbR hs (mid ms k,ZaY (mat ms k) q))/\Below W.heap.size W w'):=
     fun W hW=>sPut w.heap.size g c hs (mid ms k,ZaY (mat ms k) q) W hW (by have:=HLEN.out;omega)
    have HT:=Za (ZfQ ms q k hlt)
    clear L hve hqw hseg
    go_wp2_with fail
    go_region_held3 (fun w'=>w'.cell? ⟨b,off+k*2,none⟩=some (.int .i64 (mid ms k))/\w'.cell? ⟨b,off+k*2+1,none⟩=some (.slice ae (mat ms k).length ce))
     (first
       | go_keep
       | (refine⟨(L3.cell (p:=⟨b,off+k*2,none⟩) hbw).trans hc0,(L3.cell (p:=⟨b,off+k*2+1,none⟩) hbw).trans hc1⟩))
     (first
       | (go_at_call 122;refine HF.out.mono ?_;rintro e w2 ⟨rfl,n2,rfl⟩)
       | (go_at_call 253;refine (HP.out _ ?_).mono ?_;exact HR.out;rintro e w3 ⟨g',c',rfl,hrow3,L3⟩))
    have LF:=Za ((below_drewN HLL.out (1+n2)).trans (L3.mono hz))
    have hrow4:=Za (hrow3.mono hz)
    clear L3 hrow3
    go_wp2_with fail
    go_roundw
    case rel=>exact⟨k+1,g',c',ZbR hs (mid ms k,ZaY (mat ms k) q),by omega,by go_num,rfl,by rw [HT.out,HEH.out],hrow4.out,LF.out⟩
    case measure=>simp [intOf];omega
  · go_wp2_with fail
    go_ret
    obtain rfl:k=ms.length:=by omega
    have e1:hs=ZU (Z0 ms q):=by rw [HEH.out,List.take_of_length_le (by rw [ZO];exact Nat.le_refl _)]
    rw [<-e1]
    exact⟨g,c,rfl,HR.out,L⟩
theorem ZoC(base g c:Nat)(hs:List Ht)(k:Int)(w:World)(hr:ZN base w g c hs)(hn:hs.length<=4194304)(h0:0<=k):
 Calls Tryz.prog 205 #[.slice (some ⟨g,0,none⟩) hs.length c,.int .i64 k] w fun e w'=>∃g' c',e=.returned (.slice (some ⟨g',0,none⟩) (hs.take k.toNat).length c')/\ZN w.heap.size w' g' c' (hs.take k.toNat)/\Below w.heap.size w w':=by
 obtain⟨j0,hj0,hy0,hy1,hy2⟩:=info_parts Tryz.info66
 have hcap:=hr.cap
 have hgl:=hr.lt.2
 obtain⟨m,hm⟩:=Int.eq_ofNat_of_zero_le (show 0<=min k (hs.length:Int) by omega)
 have hml:m<=hs.length:=by omega
 have htk:hs.take k.toNat=hs.take m:=by
  rcases Int.le_total k (hs.length:Int) with h | h
  · congr 1;omega
  · rw [List.take_of_length_le (by omega),List.take_of_length_le (by omega)]
 have htl:(hs.take m).length=m:=by simp;omega
 have LA:Below w.heap.size w (w.alloc (.cells #[] 66)):=(Below.refl _ _).alloc (Nat.le_refl _) _
 have HSRC:Hid (ZV (w.alloc (.cells #[] 66)) 2 (some ⟨g,0,none⟩) m (Zm (hs.take m))):=by
  have hv:Za3 (w.alloc (.cells #[] 66)) (some ⟨g,0,none⟩) (hs.take m):=Or.inr ⟨g,0,rfl,by simp;omega,(hr.seg.take m).below hgl LA⟩
  have:=hv.src
  rwa [htl] at this
 have HMIN:=Za hm
 have HTK:=Za htk
 have HTL:=Za htl
 have hi0:(0:Int)<=(m:Int):=Int.natCast_nonneg _
 have hi1:(m:Int)<=(hs.length:Int):=by omega
 have hi2:(m:Int)<=(c:Int):=by omega
 clear hm htk htl
 rw [HTK.out,HTL.out]
 clear HTK
 go_enter Tryz.func205,Tryz.ntmps205
 go_wp2_with fail
 refine (sMin k hs.length _).mono ?_
 rintro e w1 ⟨rfl,rfl⟩
 rw [HMIN.out]
 clear HMIN
 by_cases hc:c=0
 · obtain rfl:m=0:=by omega
   subst hc
   go_wp2_with fail
   all_goals
    go_ret
    exact⟨w.heap.size,0,rfl,by simpa using ZN.start w w.heap.size (Nat.le_refl _),LA⟩
 · go_wp2_with (at_builtin;refine Zx _ rfl (.tmp 5) (.tmp 11) 36 rfl w.heap.size 66 j0 _ 2 16 Tryz.underlying36 hj0 hy0 hy1 hy2 rfl (by omega) w.heap.size 0 0 [] rfl (World.ownsRow_lit w #[] 0 (Nat.le_refl _) (Nat.zero_le _) rfl) (some ⟨g,0,none⟩) m c (Zm (hs.take m)) rfl HSRC.out (by unfold maxLen;omega) (by omega) (by simp) (w.heap.size+1) (by simp) ?_;intro gr cr w3 hownr hgrowr hatr hltr)
   go_ret
   refine⟨gr,cr,rfl,ZN.of hownr (by rw [HTL.out];omega) (by simp),LA.grown hgrowr (by simp) (by intro q hq;cases hq;exact Nat.le_refl _)⟩
theorem Zgj(k:Int):inR k 1 60=Zaz k:=rfl
theorem sNear(ao ao':Option Addr)(cap cap':Nat)(ms:List Mk)(q:List Int)(k:Int)(w:World)(hv:Zq w ao ms)(hv':Zs w ao' q)(hsm:ZX ms)(hq:q.length<=1048576):
 Calls Tryz.prog 146 #[.slice ao ms.length cap,.slice ao' q.length cap',.int .i64 k] w fun e w'=>∃g c,e=.returned (.slice (some ⟨g,0,none⟩) (Z1 ms q k).length c)/\ZN w.heap.size w' g c (Z1 ms q k)/\Below w.heap.size w w':=by
 have HT:=Za (sTold ao ao' cap cap' ms q w hv hv' hsm hq)
 rcases ht:Zap ms q with _ | _
 · have HV:Hid (Z1 ms q k=[]):=by show Z1 ms q k=[];simp [Z1,ht]
   rw [ht] at HT
   rw [HV.out]
   go_enter Tryz.func146,Tryz.ntmps146
   go_wp2_with fail
   refine HT.out.mono ?_
   rintro e w1 ⟨rfl,n1,rfl⟩
   go_wp2_with fail
   go_ret
   exact⟨_,0,rfl,ZN.start (w.drewN n1) _ (Nat.le_refl _),(below_drewN (Below.refl _ _) n1).alloc (Nat.le_refl _) _⟩
 · rw [ht] at HT
   rcases hk:Zaz k with _ | _
   · have HV:Hid (Z1 ms q k=[]):=by show Z1 ms q k=[];simp [Z1,hk]
     have HK:=fun w=>Za (sIn k 1 60 w)
     rw [Zgj,hk] at HK
     rw [HV.out]
     go_enter Tryz.func146,Tryz.ntmps146
     go_wp2_with fail
     refine HT.out.mono ?_
     rintro e w1 ⟨rfl,n1,rfl⟩
     go_wp2_with fail
     refine (HK _).out.mono ?_
     rintro e w2 ⟨rfl,rfl⟩
     go_wp2_with fail
     go_ret
     exact⟨_,0,rfl,ZN.start (w.drewN n1) _ (Nat.le_refl _),(below_drewN (Below.refl _ _) n1).alloc (Nat.le_refl _) _⟩
   · have HV:Hid (Z1 ms q k=(ZU (Z0 ms q)).take k.toNat):=by show Z1 ms q k=_;simp [Z1,ht,hk]
     have hk0:0<=k:=by simp [Zaz] at hk;omega
     have HK:=fun w=>Za (sIn k 1 60 w)
     rw [Zgj,hk] at HK
     generalize Z1 ms q k=tt at *
     have hl:(ZU (Z0 ms q)).length<=4194304:=by rw [Zd1,ZO];have:=hsm.1;omega
     have HSA:=fun n=>Za (sAll ao ao' cap cap' ms q (w.drewN n) (hv.drewN n) (hv'.drewN n) hsm hq)
     generalize ZU (Z0 ms q)=ss at *
     have HSF:=fun (g c:Nat) (W:World) (h:ZN w.heap.size W g c ss)=>Za (ZoC w.heap.size g c ss k W h hl hk0)
     rw [<-HV.out] at HSF
     go_enter Tryz.func146,Tryz.ntmps146
     go_wp2_with fail
     refine HT.out.mono ?_
     rintro e w1 ⟨rfl,n1,rfl⟩
     go_wp2_with fail
     refine (HK _).out.mono ?_
     rintro e w2 ⟨rfl,rfl⟩
     go_wp2_with fail
     refine (HSA n1).out.mono ?_
     rintro e w3 ⟨g,c,rfl,hrow,L3⟩
     have hz:=L3.size
     have LF:=below_drewN (Below.refl w.heap.size w) n1
     have L3':=LF.trans (L3.mono LF.size)
     clear LF
     go_wp2_with fail
     refine (HSF g c w3 hrow).out.mono ?_
     rintro e w4 ⟨g',c',rfl,hrow',L4⟩
     go_wp2_with fail
     go_ret
     exact⟨g',c',rfl,hrow'.mono hz,L3'.trans (L4.mono hz)⟩
end Go.Proofs.YtaaagmgglolibaaGreat
