import Derived.Test.YtilkaeclgmcolaaGreatPutZz
import Derived.Test.YtilkaeclgmcolaaGreatMCopyZz
set_option maxRecDepth 100000
set_option maxHeartbeats 2000000
namespace Go.Proofs.YtilkaeclgmcolaaGreat
open Go Go.RowKit
theorem Zlt{ms:List Mk}{q:List Int}(h:Zt ms=true)(hq:okB q=true)(h0:ms.length=0):Zbn ms q=true:=by simp [Zbn,h,hq,h0]
theorem Zlu{ms:List Mk}{q:List Int}(h:Zt ms=true)(hq:okB q=true)(h0:(mat ms 0).length=q.length):Zbn ms q=true:=by simp [Zbn,h,hq,h0]
theorem Zlv{ms:List Mk}{q:List Int}(h:ms.length≠0)(h0:(mat ms 0).length≠q.length):Zbn ms q=false:=by
 simp [Zbn,h0]
 intro _ _
 simpa using h
theorem sTold(ao ao':Option Addr)(cap cap':Nat)(ms:List Mk)(q:List Int)(w:World)(hv:Zo w ao ms)(hv':Zy w ao' q)(hsm:ZL ms)(hq:q.length<=1048576):
 Calls Tryz.prog 205 #[.slice ao ms.length cap,.slice ao' q.length cap'] w fun e w'=>e=.returned (.bool (Zbn ms q))/\∃n,w'=w.drewN n:=by
 have f:=Za (Zg2 ao cap ms w hv hsm)
 rcases hm:Zt ms with _ | _
 · have c:=Za (Zgy (q:=q) hm)
   rw [hm] at f
   go_enter Tryz.func205,Tryz.ntmps205
   go_wp2_with fail
   refine f.out.mono ?_
   rintro e g ⟨rfl,a,rfl⟩
   go_wp2_with fail
   go_ret
   exact⟨Zd c.out.symm,a,rfl⟩
 · rw [hm] at f
   rcases hok:okB q with _ | _
   · have c:=Za (Zin (ms:=ms) hok)
     have d:=fun n=>Za (sOk ao' cap' q (w.drewN n) (hv'.drewN n) hq)
     rw [hok] at d
     go_enter Tryz.func205,Tryz.ntmps205
     go_wp2_with fail
     refine f.out.mono ?_
     rintro e g ⟨rfl,a,rfl⟩
     go_wp2_with fail
     refine (d a).out.mono ?_
     rintro e k ⟨rfl,rfl⟩
     go_wp2_with fail
     go_ret
     exact⟨Zd c.out.symm,a,rfl⟩
   · have d:=fun n=>Za (sOk ao' cap' q (w.drewN n) (hv'.drewN n) hq)
     rw [hok] at d
     by_cases h0:ms.length=0
     · have c:=Za (Zlt hm hok h0)
       have m:((ms.length:Int) ==0)=true:=by simp;simpa using h0
       clear h0
       go_enter Tryz.func205,Tryz.ntmps205
       go_wp2_with fail
       refine f.out.mono ?_
       rintro e g ⟨rfl,a,rfl⟩
       go_wp2_with fail
       refine (d a).out.mono ?_
       rintro e k ⟨rfl,rfl⟩
       go_wp2_with fail
       go_ret
       exact⟨Zd c.out.symm,a,rfl⟩
     · have m:((ms.length:Int) ==0)=false:=by simp;simpa using h0
       have r:ms≠[]:=by intro h;subst h;simp at h0
       obtain⟨b,s,rfl,x,t⟩:=ZaV.seg hv (by omega)
       obtain⟨-,v,u,l,-⟩:=t.at (i:=0) (by omega)
       rw [Nat.zero_mul,Nat.add_zero] at l
       have p:(0:Int)<(ms.length:Int):=by omega
       have o:0<ms.length:=by omega
       by_cases hl:(mat ms 0).length=q.length
       · have c:=Za (Zlu hm hok hl)
         have j:(((mat ms 0).length:Int) ==(q.length:Int))=true:=by simp [hl]
         clear hl h0
         go_enter Tryz.func205,Tryz.ntmps205
         go_wp2_with fail
         refine f.out.mono ?_
         rintro e g ⟨rfl,a,rfl⟩
         go_wp2_with fail
         refine (d a).out.mono ?_
         rintro e k ⟨rfl,rfl⟩
         go_wp2_with fail
         go_ret
         exact⟨Zd c.out.symm,a,rfl⟩
       · have c:=Za (Zlv h0 hl)
         have j:(((mat ms 0).length:Int) ==(q.length:Int))=false:=by simp;omega
         clear hl h0
         go_enter Tryz.func205,Tryz.ntmps205
         go_wp2_with fail
         refine f.out.mono ?_
         rintro e g ⟨rfl,a,rfl⟩
         go_wp2_with fail
         refine (d a).out.mono ?_
         rintro e k ⟨rfl,rfl⟩
         go_wp2_with fail
         go_ret
         exact⟨Zd c.out.symm,a,rfl⟩
theorem ZU(ms:List Mk)(q:List Int):(Zae ms q).length=ms.length:=by simp [Zae]
theorem Zgh(ms:List Mk)(q:List Int)(k:Nat)(hk:k<ms.length):Z4 ((Zae ms q).take (k+1))=ZbV (Z4 ((Zae ms q).take k)) (mid ms k,Zbj (mat ms k) q):=by
 have:(Zae ms q).take (k+1)=(Zae ms q).take k++[(mid ms k,Zbj (mat ms k) q)]:=by
  rw [List.take_add_one]
  congr 1
  simp [Zae,hk,hitF,mid,mat,List.getD]
 rw [this,ZjE]
theorem sAll(ao ao':Option Addr)(cap cap':Nat)(ms:List Mk)(q:List Int)(w:World)(hv:Zo w ao ms)(hv':Zy w ao' q)(hsm:ZL ms)(hq:q.length<=1048576):
 Calls Tryz.prog 207 #[.slice ao ms.length cap,.slice ao' q.length cap'] w fun e w'=>∃g c,e=.returned (.slice (some ⟨g,0,none⟩) (Z4 (Zae ms q)).length c)/\ZT w.heap.size w' g c (Z4 (Zae ms q))/\Below w.heap.size w w':=by
 obtain⟨V,C⟩:=hsm
 have M:=Za (ZT.start w w.heap.size (Nat.le_refl _))
 have R:Below w.heap.size w (w.alloc (.cells #[] 227)):=(Below.refl _ _).alloc (Nat.le_refl _) _
 go_enter Tryz.func207,Tryz.ntmps207
 go_wp2_with fail
 go_loopw [5,6] (fun v i wr=>∃(k g c:Nat) (a:List Ht),k<=ms.length/\i=.int .i64 k/\v=.slice (some ⟨g,0,none⟩) a.length c/\a=Z4 ((Zae ms q).take k)/\ZT w.heap.size wr g c a/\Below w.heap.size w wr) (fun _ i _=>ms.length-(intOf i).toNat)
 case atStart=>exact⟨0,w.heap.size,0,[],Nat.zero_le _,rfl,rfl,rfl,M.out,R⟩
 case round=>
  obtain⟨k,g,c,a,Y,rfl,rfl,l,hrow,L⟩:=hrel
  have o:=Za l
  have j:a.length=k:=by rw [l,Zeb,List.length_take,ZU];omega
  have s:=Za j
  have E:=Za hrow
  have B:=Za L
  clear l j hrow
  by_cases hlt:k<ms.length
  · obtain⟨b,f,rfl,N,h⟩:=ZaV.seg hv (by omega)
    obtain⟨A,G,D,z,n⟩:=(h.below N (Nat.le_refl _) L).at hlt
    have r:=Zy.next hv' L
    have O:=n0Z k
    have J:(k:Int)<(ms.length:Int):=by omega
    have F:=L.size
    have t:b<wr.heap.size:=by omega
    have P:=Za (sFar G ao' D cap' (mat ms k) q wr.drew n.drew r.drew (C k) hq)
    have Q:Hid (∀W,ZT w.heap.size W g c a->Calls Tryz.prog 221 #[.slice (some ⟨g,0,none⟩) a.length c,.agg #[.int .i64 (mid ms k),.int .i64 (Zbj (mat ms k) q)]] W fun e w'=>∃y x,e=.returned (.slice (some ⟨y,0,none⟩) (ZbV a (mid ms k,Zbj (mat ms k) q)).length x)/\ZT W.heap.size w' y x (ZbV a (mid ms k,Zbj (mat ms k) q))/\Below W.heap.size W w'):=
     fun W S=>sPut w.heap.size g c a (mid ms k,Zbj (mat ms k) q) W S (by have:=s.out;omega)
    have H:=Za (Zgh ms q k hlt)
    clear L n r h
    go_wp2_with fail
    go_region_held3 (fun w'=>w'.cell? ⟨b,f+k*2,none⟩=some (.int .i64 (mid ms k))/\w'.cell? ⟨b,f+k*2+1,none⟩=some (.slice G (mat ms k).length D))
     (first
       | go_keep
       | (refine⟨(u.cell (p:=⟨b,f+k*2,none⟩) t).trans A,(u.cell (p:=⟨b,f+k*2+1,none⟩) t).trans z⟩))
     (first
       | (go_at_call 222;refine P.out.mono ?_;rintro e X ⟨rfl,I,rfl⟩)
       | (go_at_call 221;refine (Q.out _ ?_).mono ?_;exact E.out;rintro e U ⟨y,x,rfl,d,u⟩))
    have T:=Za ((below_drewN B.out (1+I)).trans (u.mono F))
    have m:=Za (d.mono F)
    clear u d
    go_wp2_with fail
    go_roundw
    case rel=>exact⟨k+1,y,x,ZbV a (mid ms k,Zbj (mat ms k) q),by omega,by go_num,rfl,by rw [H.out,o.out],m.out,T.out⟩
    case measure=>simp [intOf];omega
  · go_wp2_with fail
    go_ret
    obtain rfl:k=ms.length:=by omega
    have K:a=Z4 (Zae ms q):=by rw [o.out,List.take_of_length_le (by rw [ZU];exact Nat.le_refl _)]
    rw [<-K]
    exact⟨g,c,rfl,E.out,L⟩
theorem ZpE(base g c:Nat)(hs:List Ht)(k:Int)(w:World)(hr:ZT base w g c hs)(hn:hs.length<=4194304)(h0:0<=k):
 Calls Tryz.prog 206 #[.slice (some ⟨g,0,none⟩) hs.length c,.int .i64 k] w fun e w'=>∃g' c',e=.returned (.slice (some ⟨g',0,none⟩) (hs.take k.toNat).length c')/\ZT w.heap.size w' g' c' (hs.take k.toNat)/\Below w.heap.size w w':=by
 obtain⟨C,s,p,u,o⟩:=info_parts Tryz.info227
 have y:=hr.cap
 have r:=hr.lt.2
 obtain⟨m,z⟩:=Int.eq_ofNat_of_zero_le (show 0<=min k (hs.length:Int) by omega)
 have D:m<=hs.length:=by omega
 have i:hs.take k.toNat=hs.take m:=by
  rcases Int.le_total k (hs.length:Int) with h | h
  · congr 1;omega
  · rw [List.take_of_length_le (by omega),List.take_of_length_le (by omega)]
 have f:(hs.take m).length=m:=by simp;omega
 have t:Below w.heap.size w (w.alloc (.cells #[] 227)):=(Below.refl _ _).alloc (Nat.le_refl _) _
 have n:Hid (ZX (w.alloc (.cells #[] 227)) 2 (some ⟨g,0,none⟩) m (Zn (hs.take m))):=by
  have G:Za7 (w.alloc (.cells #[] 227)) (some ⟨g,0,none⟩) (hs.take m):=Or.inr ⟨g,0,rfl,by simp;omega,(hr.seg.take m).below r t⟩
  have:=G.src
  rwa [f] at this
 have b:=Za z
 have l:=Za i
 have j:=Za f
 have I:=n0Z m
 have A:(m:Int)<=(hs.length:Int):=by omega
 have F:(m:Int)<=(c:Int):=by omega
 clear z i f
 rw [l.out,j.out]
 clear l
 go_enter Tryz.func206,Tryz.ntmps206
 go_wp2_with fail
 refine (sMin k hs.length _).mono ?_
 rintro e J ⟨rfl,rfl⟩
 rw [b.out]
 clear b
 by_cases hc:c=0
 · obtain rfl:m=0:=by omega
   subst hc
   go_wp2_with fail
   all_goals
    go_ret
    exact⟨w.heap.size,0,rfl,by simpa using ZT.start w w.heap.size (Nat.le_refl _),t⟩
 · go_wp2_with (at_builtin;refine Zw _ rfl (.tmp 5) (.tmp 11) 223 rfl w.heap.size 227 C _ 2 16 Tryz.underlying223 s p u o rfl (by omega) w.heap.size 0 0 [] rfl (World.ownsRow_lit w #[] 0 (Nat.le_refl _) (Nat.zero_le _) rfl) (some ⟨g,0,none⟩) m c (Zn (hs.take m)) rfl n.out (by unfold maxLen;omega) (by omega) (by simp) (w.heap.size+1) (by simp) ?_;intro H E K d a x v)
   go_ret
   refine⟨H,E,rfl,ZT.of d (by rw [j.out];omega) (by simp),t.grown a (by simp) (by intro q B;cases B;exact Nat.le_refl _)⟩
theorem ZgL(k:Int):inR k 1 60=ZaO k:=rfl
theorem sNear(ao ao':Option Addr)(cap cap':Nat)(ms:List Mk)(q:List Int)(k:Int)(w:World)(hv:Zo w ao ms)(hv':Zy w ao' q)(hsm:ZL ms)(hq:q.length<=1048576):
 Calls Tryz.prog 187 #[.slice ao ms.length cap,.slice ao' q.length cap',.int .i64 k] w fun e w'=>∃g c,e=.returned (.slice (some ⟨g,0,none⟩) (Zav ms q k).length c)/\ZT w.heap.size w' g c (Zav ms q k)/\Below w.heap.size w w':=by
 have d:=Za (sTold ao ao' cap cap' ms q w hv hv' hsm hq)
 rcases ht:Zbn ms q with _ | _
 · have i:Hid (Zav ms q k=[]):=by show Zav ms q k=[];simp [Zav,ht]
   rw [ht] at d
   rw [i.out]
   go_enter Tryz.func187,Tryz.ntmps187
   go_wp2_with fail
   refine d.out.mono ?_
   rintro e r ⟨rfl,a,rfl⟩
   go_wp2_with fail
   go_ret
   exact⟨_,0,rfl,ZT.start (w.drewN a) _ (Nat.le_refl _),(below_drewN (Below.refl _ _) a).alloc (Nat.le_refl _) _⟩
 · rw [ht] at d
   rcases hk:ZaO k with _ | _
   · have i:Hid (Zav ms q k=[]):=by show Zav ms q k=[];simp [Zav,hk]
     have j:=fun w=>Za (sIn k 1 60 w)
     rw [ZgL,hk] at j
     rw [i.out]
     go_enter Tryz.func187,Tryz.ntmps187
     go_wp2_with fail
     refine d.out.mono ?_
     rintro e r ⟨rfl,a,rfl⟩
     go_wp2_with fail
     refine (j _).out.mono ?_
     rintro e y ⟨rfl,rfl⟩
     go_wp2_with fail
     go_ret
     exact⟨_,0,rfl,ZT.start (w.drewN a) _ (Nat.le_refl _),(below_drewN (Below.refl _ _) a).alloc (Nat.le_refl _) _⟩
   · have i:Hid (Zav ms q k=(Z4 (Zae ms q)).take k.toNat):=by show Zav ms q k=_;simp [Zav,ht,hk]
     have m:0<=k:=by simp [ZaO] at hk;omega
     have j:=fun w=>Za (sIn k 1 60 w)
     rw [ZgL,hk] at j
     generalize Zav ms q k=tt at *
     have u:(Z4 (Zae ms q)).length<=4194304:=by rw [Zeb,ZU];have:=hsm.1;omega
     have o:=fun n=>Za (sAll ao ao' cap cap' ms q (w.drewN n) (hv.drewN n) (hv'.drewN n) hsm hq)
     generalize Z4 (Zae ms q)=ss at *
     have f:=fun (g c:Nat) (W:World) (h:ZT w.heap.size W g c ss)=>Za (ZpE w.heap.size g c ss k W h u m)
     rw [<-i.out] at f
     go_enter Tryz.func187,Tryz.ntmps187
     go_wp2_with fail
     refine d.out.mono ?_
     rintro e r ⟨rfl,a,rfl⟩
     go_wp2_with fail
     refine (j _).out.mono ?_
     rintro e y ⟨rfl,rfl⟩
     go_wp2_with fail
     refine (o a).out.mono ?_
     rintro e x ⟨g,c,rfl,hrow,s⟩
     have t:=s.size
     have p:=below_drewN (Below.refl w.heap.size w) a
     have l:=p.trans (s.mono p.size)
     clear p
     go_wp2_with fail
     refine (f g c x hrow).out.mono ?_
     rintro e B ⟨A,z,rfl,b,v⟩
     go_wp2_with fail
     go_ret
     exact⟨A,z,rfl,b.mono t,l.trans (v.mono t)⟩
end Go.Proofs.YtilkaeclgmcolaaGreat
