import Derived.Test.YtilkaeclgmcolaaGreatMSizeZz
import Derived.Deep.RegionHeld3
set_option maxRecDepth 100000
set_option maxHeartbeats 2000000
namespace Go.Proofs.YtilkaeclgmcolaaGreat
open Go Go.RowKit
theorem Tryz.info161:(Tryz.prog.info? 161).map (fun i=>(i.zero,i.size,i.bytes))=some (some (.agg #[.int .i64 0,.slice none 0 0]),2,32):=by kernel_rfl
theorem toM(m:Mk)(ao:Option Addr)(cap:Nat)(w:World)(hv:Zy w ao m.2)(hn:m.2.length<=1048576):
 Calls Tryz.prog 124 #[.agg #[.int .i64 m.1,.slice ao m.2.length cap]] w fun e w'=>∃b,e=.returned (.agg #[.int .i64 m.1,.slice (some ⟨b,0,none⟩) m.2.length m.2.length])/\Own w' b m.2/\w.heap.size<=b/\Below w.heap.size w w':=by
 have k:Below w.heap.size w (((w.alloc (.cells #[.int .i64 m.1,.slice ao m.2.length cap] 166)).alloc (.cells #[.int .i64 0,.slice none 0 0] 161)).alloc (.cells #[.int .i64 m.1,.slice none 0 0] 161)):=
  (((Below.refl _ _).alloc (Nat.le_refl _) _).alloc (by simp) _).alloc (by simp;omega) _
 have d:(((w.alloc (.cells #[.int .i64 m.1,.slice ao m.2.length cap] 166)).alloc (.cells #[.int .i64 0,.slice none 0 0] 161)).alloc (.cells #[.int .i64 m.1,.slice none 0 0] 161)).cell? ⟨w.heap.size+1,0,none⟩=some (.int .i64 0):=by go_simp
 have c:(((w.alloc (.cells #[.int .i64 m.1,.slice ao m.2.length cap] 166)).alloc (.cells #[.int .i64 0,.slice none 0 0] 161)).alloc (.cells #[.int .i64 m.1,.slice none 0 0] 161)).cell? ⟨w.heap.size+1,1,none⟩=some (.slice none 0 0):=by go_simp
 have f:(((w.alloc (.cells #[.int .i64 m.1,.slice ao m.2.length cap] 166)).alloc (.cells #[.int .i64 0,.slice none 0 0] 161)).alloc (.cells #[.int .i64 m.1,.slice none 0 0] 161)).cell? ⟨w.heap.size+1+1,0,none⟩=some (.int .i64 m.1):=by go_simp
 have i:(((w.alloc (.cells #[.int .i64 m.1,.slice ao m.2.length cap] 166)).alloc (.cells #[.int .i64 0,.slice none 0 0] 161)).alloc (.cells #[.int .i64 m.1,.slice none 0 0] 161)).cell? ⟨w.heap.size+1+1,1,none⟩=some (.slice none 0 0):=by go_simp
 have h:(((w.alloc (.cells #[.int .i64 m.1,.slice ao m.2.length cap] 166)).alloc (.cells #[.int .i64 0,.slice none 0 0] 161)).alloc (.cells #[.int .i64 m.1,.slice none 0 0] 161)).frozen? ⟨w.heap.size+1,0,none⟩=false:=by go_simp
 have j:(((w.alloc (.cells #[.int .i64 m.1,.slice ao m.2.length cap] 166)).alloc (.cells #[.int .i64 0,.slice none 0 0] 161)).alloc (.cells #[.int .i64 m.1,.slice none 0 0] 161)).frozen? ⟨w.heap.size+1,1,none⟩=false:=by go_simp
 have g:(((w.alloc (.cells #[.int .i64 m.1,.slice ao m.2.length cap] 166)).alloc (.cells #[.int .i64 0,.slice none 0 0] 161)).alloc (.cells #[.int .i64 m.1,.slice none 0 0] 161)).frozen? ⟨w.heap.size+1+1,1,none⟩=false:=by go_simp
 have n:(((w.alloc (.cells #[.int .i64 m.1,.slice ao m.2.length cap] 166)).alloc (.cells #[.int .i64 0,.slice none 0 0] 161)).alloc (.cells #[.int .i64 m.1,.slice none 0 0] 161)).heap.size=w.heap.size+3:=by simp
 go_enter Tryz.func124,Tryz.ntmps124
 go_wp2_with fail
 generalize (((w.alloc (.cells #[.int .i64 m.1,.slice ao m.2.length cap] 166)).alloc (.cells #[.int .i64 0,.slice none 0 0] 161)).alloc (.cells #[.int .i64 m.1,.slice none 0 0] 161))=W0 at *
 refine (toS ao cap m.2 W0 (hv.below (Nat.le_refl _) k) hn).mono ?_
 rintro e s ⟨l,rfl,r,o,a⟩
 replace d:=(a.cell (p:=⟨w.heap.size+1,0,none⟩) (by simp;omega)).trans d
 replace c:=(a.cell (p:=⟨w.heap.size+1,1,none⟩) (by simp;omega)).trans c
 replace f:=(a.cell (p:=⟨w.heap.size+1+1,0,none⟩) (by simp;omega)).trans f
 replace i:=(a.cell (p:=⟨w.heap.size+1+1,1,none⟩) (by simp;omega)).trans i
 replace h:=(a.frozen (p:=⟨w.heap.size+1,0,none⟩) (by simp;omega)).trans h
 replace j:=(a.frozen (p:=⟨w.heap.size+1,1,none⟩) (by simp;omega)).trans j
 replace g:=(a.frozen (p:=⟨w.heap.size+1+1,1,none⟩) (by simp;omega)).trans g
 have q:=k.trans (a.mono k.size)
 clear k a hv
 go_wp2_with fail
 refine bodyPost_ret (v:=.agg #[.int .i64 m.1,.slice (some ⟨l,0,none⟩) m.2.length m.2.length]) (by simp [results,Tryz.results124,go_sem,d,c]) rfl ?_
 refine⟨l,rfl,?_,by omega,?_⟩
 · exact (((r.setOther (by simp;omega) _).setOther (by simp;omega) _).setOther (by simp;omega) _)
 · exact ((q.setCell (by simp;omega) _).setCell (by simp) _).setCell (by simp) _
theorem Zm4(b off cap:Nat)(ms:List Mk)(w:World)(hs:ZaV w b off ms)(hb:b<w.heap.size)(hsm:ZL ms):
 Calls Tryz.prog 81 #[.slice (some ⟨b,off,none⟩) ms.length cap] w fun e w'=>e=.returned (.slice (some ⟨w.heap.size,0,none⟩) ms.length ms.length)/\ZaQ w' w.heap.size ms.length ms.length ms/\Below w.heap.size w w':=by
 obtain⟨B,j⟩:=hsm
 have m:=Zai (P:=Tryz.prog) 36 161 (.agg #[.int .i64 0,.slice none 0 0]) 2 32 Tryz.underlying36 Tryz.info161 .i64 .i64 ms.length (by omega) (by omega)
 go_enter Tryz.func81,Tryz.ntmps81
 go_wp2
 clear m
 go_loopw [4] (fun i wr=>∃k:Nat,k<=ms.length/\i=.int .i64 k/\ZaQ wr w.heap.size k ms.length ms/\Below w.heap.size w wr) (fun i _=>ms.length-(intOf i).toNat)
 case atStart=>exact⟨0,Nat.zero_le _,rfl,ZaQ.start w _ _ _ _,(Below.refl _ _).alloc (Nat.le_refl _) _⟩
 case round=>
  obtain⟨k,x,rfl,d,L⟩:=hrel
  by_cases hlt:k<ms.length
  · obtain⟨h,s,c,f,o⟩:=(hs.below hb (Nat.le_refl _) L).at hlt
    have q:=L.size
    have u:=d.1
    go_wp2_with fail
    refine (toM (ZJ ms k) s c _ o (j k)).mono ?_
    rintro e y ⟨g,rfl,n,A,l⟩
    have a:=d.below (Nat.le_refl _) l
    have p:=L.trans (l.mono q)
    obtain⟨C,E,D⟩:=a.2.2.1 (k*2) (Nat.le_refl _) (by omega)
    obtain⟨z,v,F⟩:=a.2.2.1 (k*2+1) (by omega) (by omega)
    have t:=Za (a.step hlt (by omega) n)
    have r:=Za p
    clear d a L l p n h f o
    go_wp2_with fail
    go_roundw
    case rel=>exact⟨k+1,by omega,by go_num,t.out,(r.out.setCell (by simp) _).setCell (by simp) _⟩
    case measure=>simp [intOf];omega
  · go_wp2
    go_ret
    obtain rfl:k=ms.length:=by omega
    exact⟨rfl,d,L⟩
theorem Zm5(ao:Option Addr)(cap:Nat)(w:World):
 Calls Tryz.prog 81 #[.slice ao 0 cap] w fun e w'=>e=.returned (.slice (some ⟨w.heap.size,0,none⟩) 0 0)/\w'=w.alloc (.cells #[] 161):=by
 have a:∀w,(Instr.makeSlice 36 (.int .i64 0) (.int .i64 0)).run Tryz.prog w=.ok (.slice (some ⟨w.heap.size,0,none⟩) 0 0) (w.alloc (.cells #[] 161)):=fun _=>by kernel_rfl
 go_enter Tryz.func81,Tryz.ntmps81
 go_wp2
 clear a
 refine wp_loop_rounds 1 ?_
 rw [rounds_succ]
 go_wp2
 go_ret
 exact⟨rfl,rfl⟩
theorem toMS(ao:Option Addr)(cap:Nat)(ms:List Mk)(w:World)(hv:Zo w ao ms)(hsm:ZL ms):
 Calls Tryz.prog 81 #[.slice ao ms.length cap] w fun e w'=>∃b,e=.returned (.slice (some ⟨b,0,none⟩) ms.length ms.length)/\ZaQ w' b ms.length ms.length ms/\w.heap.size<=b/\Below w.heap.size w w':=by
 rcases hv with rfl | ⟨b,off,rfl,hb,hs⟩
 · refine (Zm5 ao cap w).mono ?_
   rintro e w' ⟨rfl,rfl⟩
   exact⟨_,rfl,⟨by simp,fun i a=>by simp at a,fun j _ d=>by simp at d,fun j=>World.frozen?_alloc_at _ _ _ _ rfl⟩,Nat.le_refl _,(Below.refl _ _).alloc (Nat.le_refl _) _⟩
 · refine (Zm4 b off cap ms w hs hb hsm).mono ?_
   rintro e w' ⟨rfl,c,L⟩
   exact⟨_,rfl,c,Nat.le_refl _,L⟩
theorem eqM(m m':Mk)(ao ao':Option Addr)(cap cap':Nat)(w:World)(hv:Zy w ao m.2)(hv':Zy w ao' m'.2)(hn:m.2.length<=1048576):
 Calls Tryz.prog 138 #[.agg #[.int .i64 m.1,.slice ao m.2.length cap],.agg #[.int .i64 m'.1,.slice ao' m'.2.length cap']] w fun e w'=>e=.returned (.bool (decide (m=m')))/\Below w.heap.size w w':=by
 have a:Below w.heap.size w ((w.alloc (.cells #[.int .i64 m.1,.slice ao m.2.length cap] 161)).alloc (.cells #[.int .i64 m'.1,.slice ao' m'.2.length cap'] 161)):=
  ((Below.refl _ _).alloc (Nat.le_refl _) _).alloc (by simp) _
 by_cases h:m.1=m'.1
 · have j:(m.1 !=m'.1)=false:=by simp [h]
   have i:Hid (∀b,b=decide (m.2=m'.2)->decide (m=m')=b):=by
    rintro b rfl
    obtain⟨x,k⟩:=m
    obtain⟨y,l⟩:=m'
    simp only at h
    subst h
    simp
   clear h
   have g:=Zy.next hv a
   have c:=Zy.next hv' a
   clear hv hv'
   go_enter Tryz.func138,Tryz.ntmps138
   go_wp2_with fail
   refine (eqS ao ao' cap cap' m.2 m'.2 _ g c hn).mono ?_
   rintro e n ⟨rfl,o,rfl⟩
   have f:=Za (i.out _ rfl)
   generalize decide (m.2=m'.2)=d at *
   cases d
   · go_wp2_with fail
     go_ret
     exact⟨Zd f.out.symm,below_drewN a _⟩
   · go_wp2_with fail
     go_ret
     exact⟨Zd f.out.symm,below_drewN a _⟩
 · have j:(m.1 !=m'.1)=true:=by simp [h]
   have i:Hid (decide (m=m')=false):=by show decide (m=m')=false;simp;rintro rfl;exact h rfl
   clear h
   go_enter Tryz.func138,Tryz.ntmps138
   go_wp2_with fail
   go_ret
   exact⟨Zd i.out.symm,a⟩
theorem Zoo(ao ao':Option Addr)(n n' cap cap':Nat)(w:World)(h:n≠n'):
 Calls Tryz.prog 90 #[.slice ao n cap,.slice ao' n' cap'] w fun e w'=>e=.returned (.bool false)/\w'=w:=by
 have a:((n:Int) !=(n':Int))=true:=by simp;omega
 go_enter Tryz.func90,Tryz.ntmps90
 go_wp2
 go_ret
 exact⟨rfl,rfl⟩
theorem Zit(ao ao':Option Addr)(cap cap':Nat)(w:World):
 Calls Tryz.prog 90 #[.slice ao 0 cap,.slice ao' 0 cap'] w fun e w'=>e=.returned (.bool true)/\w'=w:=by
 go_enter Tryz.func90,Tryz.ntmps90
 go_wp2
 refine wp_loop_rounds 1 ?_
 rw [rounds_succ]
 go_wp2
 go_ret
 exact⟨rfl,rfl⟩
theorem ms_eq{ms ns:List Mk}(hl:ms.length=ns.length)(h:∀j,j<ms.length->ZJ ms j=ZJ ns j):ms=ns:=
 mk_eq hl fun i hi=>⟨congrArg Prod.fst (h i hi),congrArg Prod.snd (h i hi)⟩
theorem Zm6(b off cap b' off' cap':Nat)(ms ns:List Mk)(w:World)(hs:ZaV w b off ms)(hs':ZaV w b' off' ns)(hb:b<w.heap.size)(hb':b'<w.heap.size)(hsm:ZL ms)(hl:ms.length=ns.length):
 Calls Tryz.prog 90 #[.slice (some ⟨b,off,none⟩) ms.length cap,.slice (some ⟨b',off',none⟩) ns.length cap'] w fun e w'=>e=.returned (.bool (decide (ms=ns)))/\Below w.heap.size w w':=by
 obtain⟨P,y⟩:=hsm
 have K:((ms.length:Int) !=(ns.length:Int))=false:=by simp [hl]
 have z:Hid (ms.length=ns.length):=hl
 have M:ns.length<=1048576:=by omega
 clear hl
 go_enter Tryz.func90,Tryz.ntmps90
 go_wp2
 go_loopw [5] (fun i wr=>∃k:Nat,k<=ms.length/\i=.int .i64 k/\(∀j,j<k->ZJ ms j=ZJ ns j)/\Below w.heap.size w wr) (fun i _=>ms.length-(intOf i).toNat)
 case atStart=>exact⟨0,Nat.zero_le _,rfl,fun j G=>by omega,Below.refl _ _⟩
 case round=>
  obtain⟨k,Q,rfl,c,L⟩:=hrel
  have D:=Za c
  clear c
  by_cases hlt:k<ms.length
  · have l:k<ns.length:=by have:=z.out;omega
    obtain⟨s,B,C,r,A⟩:=(hs.below hb (Nat.le_refl _) L).at hlt
    obtain⟨t,n,m,x,q⟩:=(hs'.below hb' (Nat.le_refl _) L).at l
    have N:=n0Z k
    have F:(k:Int)<(ms.length:Int):=by omega
    have J:(k:Int)<(ns.length:Int):=by omega
    have I:=L.size
    have o:b<wr.heap.size:=by omega
    have a:b'<wr.heap.size:=by omega
    have H:=Za (eqM (ZJ ms k) (ZJ ns k) B n C m wr.drew A q (y k))
    have u:=Za L
    clear L A q
    go_wp2
    go_region_held3 (fun w'=>w'.cell? ⟨b,off+k*2,none⟩=some (.int .i64 (mid ms k))/\w'.cell? ⟨b,off+k*2+1,none⟩=some (.slice B (mat ms k).length C)/\w'.cell? ⟨b',off'+k*2,none⟩=some (.int .i64 (mid ns k))/\w'.cell? ⟨b',off'+k*2+1,none⟩=some (.slice n (mat ns k).length m))
     (first
       | go_keep
       | (refine⟨(g.cell (p:=⟨b,off+k*2,none⟩) o).trans s,(g.cell (p:=⟨b,off+k*2+1,none⟩) o).trans r,(g.cell (p:=⟨b',off'+k*2,none⟩) a).trans t,(g.cell (p:=⟨b',off'+k*2+1,none⟩) a).trans x⟩))
     (first
       | (go_at_call 138;refine H.out.mono ?_;rintro e O ⟨rfl,g⟩))
    have E:=Za (u.out.drew.trans (g.mono I))
    clear g
    by_cases he:ZJ ms k=ZJ ns k
    · have f:decide (ZJ ms k=ZJ ns k)=true:=by simp [he]
      have v:=Za he
      clear he
      generalize decide (ZJ ms k=ZJ ns k)=d at *
      subst f
      go_wp2
      go_roundw
      case rel=>exact⟨k+1,by omega,by go_num,fun j G=>by
       rcases Nat.lt_or_ge j k with h | h
       · exact D.out j h
       · rw [show j=k by omega];exact v.out,E.out⟩
      case measure=>simp [intOf];omega
    · have f:decide (ZJ ms k=ZJ ns k)=false:=by simp [he]
      have v:=Za he
      clear he
      generalize decide (ZJ ms k=ZJ ns k)=d at *
      subst f
      go_wp2
      go_ret
      exact⟨Zd (Eq.symm (decide_eq_false (fun h=>v.out (by rw [h])))),E.out⟩
  · go_wp2
    go_ret
    obtain rfl:k=ms.length:=by omega
    exact⟨Zd (Eq.symm (decide_eq_true (ms_eq z.out D.out))),L⟩
theorem eqMS(ao ao':Option Addr)(cap cap':Nat)(ms ns:List Mk)(w:World)(hv:Zo w ao ms)(hv':Zo w ao' ns)(hsm:ZL ms):
 Calls Tryz.prog 90 #[.slice ao ms.length cap,.slice ao' ns.length cap'] w fun e w'=>e=.returned (.bool (decide (ms=ns)))/\Below w.heap.size w w':=by
 by_cases hl:ms.length=ns.length
 · rcases hv with rfl | ⟨b,off,rfl,hb,hs⟩
   · obtain rfl:ns=[]:=List.eq_nil_of_length_eq_zero (by simpa using hl.symm)
     refine (Zit ao ao' cap cap' w).mono ?_
     rintro e w' ⟨rfl,rfl⟩
     exact⟨rfl,Below.refl _ _⟩
   · rcases hv' with rfl | ⟨b',off',rfl,hb',hs'⟩
     · obtain rfl:ms=[]:=List.eq_nil_of_length_eq_zero (by simpa using hl)
       refine (Zit _ ao' cap cap' w).mono ?_
       rintro e w' ⟨rfl,rfl⟩
       exact⟨rfl,Below.refl _ _⟩
     · exact Zm6 b off cap b' off' cap' ms ns w hs hs' hb hb' hsm hl
 · refine (Zoo ao ao' ms.length ns.length cap cap' w hl).mono ?_
   rintro e w' ⟨rfl,rfl⟩
   exact⟨Zd (Eq.symm (decide_eq_false (fun h=>hl (by rw [h])))),Below.refl _ _⟩
def inR(x lo hi:Int):Bool:=decide (lo<=x) && decide (x<=hi)
theorem Zcc{x lo hi:Int}(h1:lo<=x)(h2:x<=hi):inR x lo hi=true:=by simp [inR,h1,h2]
theorem Ze3{x lo hi:Int}(h1:¬lo<=x):inR x lo hi=false:=by simp [inR,h1]
theorem ZdY{x lo hi:Int}(h2:¬x<=hi):inR x lo hi=false:=by simp [inR,h2]
theorem ZlH{x lo hi:Int}(h:inR x lo hi=true):lo<=x/\x<=hi:=by simpa [inR] using h
theorem Zop{x lo hi:Int}(h:inR x lo hi=false):¬(lo<=x/\x<=hi):=by intro a;rw [Zcc a.1 a.2] at h;cases h
theorem sIn(x lo hi:Int)(w:World):
 Calls Tryz.prog 70 #[.int .i64 x,.int .i64 lo,.int .i64 hi] w fun e w'=>e=.returned (.bool (inR x lo hi))/\w'=w:=by
 by_cases h1:lo<=x
 · by_cases h2:x<=hi
   · have a:=Za (Zcc h1 h2)
     go_enter Tryz.func70,Tryz.ntmps70
     go_wp2
     go_ret
     exact⟨Zd a.out.symm,rfl⟩
   · have a:=Za (ZdY (lo:=lo) h2)
     go_enter Tryz.func70,Tryz.ntmps70
     go_wp2
     go_ret
     exact⟨Zd a.out.symm,rfl⟩
 · have a:=Za (Ze3 (hi:=hi) h1)
   go_enter Tryz.func70,Tryz.ntmps70
   go_wp2
   go_ret
   exact⟨Zd a.out.symm,rfl⟩
def ZdE(m:Mk):Bool:=inR m.1 1 1000000 && okB m.2
def Zar(m l:Mk):Bool:=decide (l.1<m.1) && decide (m.2.length=l.2.length)
theorem Zj1(k:Int)(w:World):
 Calls Tryz.prog 71 #[.int .i64 k] w fun e w'=>e=.returned (.bool (inR k 1 1000000))/\w'=w:=by
 by_cases h1:1<=k
 · by_cases h2:k<=1000000
   · have a:=Za (Zcc h1 h2)
     go_enter Tryz.func71,Tryz.ntmps71
     go_wp2
     go_ret
     exact⟨Zd a.out.symm,rfl⟩
   · have a:=Za (ZdY (lo:=1) h2)
     go_enter Tryz.func71,Tryz.ntmps71
     go_wp2
     go_ret
     exact⟨Zd a.out.symm,rfl⟩
 · have a:=Za (Ze3 (hi:=1000000) h1)
   go_enter Tryz.func71,Tryz.ntmps71
   go_wp2
   go_ret
   exact⟨Zd a.out.symm,rfl⟩
theorem Zoq(m:Mk)(ao:Option Addr)(cap:Nat)(w:World)(hv:Zy w ao m.2)(hn:m.2.length<=1048576):
 Calls Tryz.prog 150 #[.agg #[.int .i64 m.1,.slice ao m.2.length cap]] w fun e w'=>e=.returned (.bool (ZdE m))/\Below w.heap.size w w':=by
 have f:Below w.heap.size w (w.alloc (.cells #[.int .i64 m.1,.slice ao m.2.length cap] 161)):=(Below.refl _ _).alloc (Nat.le_refl _) _
 have h:=Za (fun W (L:Below w.heap.size w W)=>iOk ao cap m.2 W (Zy.next hv L) hn)
 have d:=Za (fun W=>Zj1 m.1 W)
 have c:=Za f
 obtain⟨b,a⟩:∃b,inR m.1 1 1000000=b:=⟨_,rfl⟩
 rw [a] at d
 have g:Hid (ZdE m=(b && okB m.2)):=by show ZdE m=_;simp [ZdE,a]
 clear a hv f
 go_enter Tryz.func150,Tryz.ntmps150
 go_wp2_with fail
 refine (d.out _).mono ?_
 rintro e i ⟨rfl,rfl⟩
 cases b with
 | true=>
   go_wp2_with fail
   refine (h.out _ c.out).mono ?_
   rintro e i ⟨rfl,rfl⟩
   go_wp2_with fail
   go_ret
   exact⟨Zd g.out.symm,c.out⟩
 | false=>
   go_wp2_with fail
   go_ret
   exact⟨Zd g.out.symm,c.out⟩
theorem Zm7(m l:Mk)(ao ao':Option Addr)(cap cap':Nat)(w:World):
 Calls Tryz.prog 151 #[.agg #[.int .i64 m.1,.slice ao m.2.length cap],.agg #[.int .i64 l.1,.slice ao' l.2.length cap']] w fun e w'=>e=.returned (.bool (Zar m l))/\Below w.heap.size w w':=by
 have b:Below w.heap.size w ((w.alloc (.cells #[.int .i64 m.1,.slice ao m.2.length cap] 161)).alloc (.cells #[.int .i64 l.1,.slice ao' l.2.length cap'] 161)):=
  ((Below.refl _ _).alloc (Nat.le_refl _) _).alloc (by simp) _
 by_cases h1:l.1<m.1
 · by_cases h2:m.2.length=l.2.length
   · have a:Hid (Zar m l=true):=by show Zar m l=_;simp [Zar,h1,h2]
     have c:((m.2.length:Int) ==(l.2.length:Int))=true:=by simp [h2]
     clear h2
     go_enter Tryz.func151,Tryz.ntmps151
     go_wp2_with fail
     go_ret
     exact⟨Zd a.out.symm,b⟩
   · have a:Hid (Zar m l=false):=by show Zar m l=_;simp [Zar,h2]
     have c:((m.2.length:Int) ==(l.2.length:Int))=false:=by simp;omega
     clear h2
     go_enter Tryz.func151,Tryz.ntmps151
     go_wp2_with fail
     go_ret
     exact⟨Zd a.out.symm,b⟩
 · have a:Hid (Zar m l=false):=by show Zar m l=_;simp [Zar,h1]
   go_enter Tryz.func151,Tryz.ntmps151
   go_wp2_with fail
   go_ret
   exact⟨Zd a.out.symm,b⟩
theorem Ziu(ao:Option Addr)(n cap:Nat)(w:World)(h:60<n)(hn:n<=1048576):
 Calls Tryz.prog 114 #[.slice ao n cap] w fun e w'=>e=.returned (.bool false)/\w'=w:=by
 go_enter Tryz.func114,Tryz.ntmps114
 go_wp2
 go_ret
 exact⟨rfl,rfl⟩
theorem Zjy(ao:Option Addr)(cap:Nat)(w:World):
 Calls Tryz.prog 114 #[.slice ao 0 cap] w fun e w'=>e=.returned (.bool true)/\w'=w:=by
 go_enter Tryz.func114,Tryz.ntmps114
 go_wp2
 refine wp_loop_rounds 1 ?_
 rw [rounds_succ]
 go_wp2
 go_ret
 exact⟨rfl,rfl⟩
theorem Zjz(b off cap:Nat)(ms:List Mk)(w:World)(hs:ZaV w b off ms)(_hb:b<w.heap.size)(hsm:ZL ms)(h60:ms.length<=60):
 Calls Tryz.prog 114 #[.slice (some ⟨b,off,none⟩) ms.length cap] w fun e w'=>e=.returned (.bool (Zt ms))/\∃n,w'=w.drewN n:=by
 obtain⟨f,z⟩:=hsm
 have x:=Za h60
 go_enter Tryz.func114,Tryz.ntmps114
 go_wp2
 go_loopw [3] (fun i wr=>∃k:Nat,k<=ms.length/\i=.int .i64 k/\(∀j,j<k->ZbZ ms j=true)/\∃n,wr=w.drewN n) (fun i _=>ms.length-(intOf i).toNat)
 case atStart=>exact⟨0,Nat.zero_le _,rfl,fun j G=>by omega,0,rfl⟩
 case round=>
  obtain⟨k,P,rfl,m,A⟩:=hrel
  have D:=Za m
  have l:Hid (∃n,wr=w.drewN n):=A
  clear m A
  by_cases hlt:k<ms.length
  · have c:ZaV wr b off ms:=by obtain⟨n,rfl⟩:=l.out;exact hs
    obtain⟨v,o,q,u,B⟩:=c.at hlt
    obtain⟨-,N,F,s,-⟩:=c.at (i:=0) (by omega)
    rw [Nat.zero_mul,Nat.add_zero] at s
    have M:=n0Z k
    have E:(k:Int)<(ms.length:Int):=by omega
    have I:(0:Int)<(ms.length:Int):=by omega
    have d:=z k
    have p:=Za B
    have t:=Za (Zdc ms k)
    have r:=Za (ZZ ms k).2
    clear B c
    rcases hin:inR (mid ms k) 1 1000000 with _ | _
    · have a:=Za (Zop hin)
      go_wp2
      go_quiet (first | (go_at_call 70;exact Calls.quiet_of_same (sIn _ _ _ _)) | (go_at_call 72;exact Calls.quiet_of_same (sOk o q (mat ms k) _ (p.out.drewN _) d)))
      go_wp2
      go_ret
      exact⟨Zd (ZbD hlt (t.out (fun h=>a.out ⟨h.1,h.2.1⟩))).symm,by obtain⟨n,f⟩:=l.out;exact⟨n+nq,by rw [f];simp⟩⟩
    · have a:=Za (ZlH hin)
      rcases hok:okB (mat ms k) with _ | _
      · go_wp2
        go_quiet (first | (go_at_call 70;exact Calls.quiet_of_same (sIn _ _ _ _)) | (go_at_call 72;exact Calls.quiet_of_same (sOk o q (mat ms k) _ (p.out.drewN _) d)))
        go_wp2
        go_ret
        exact⟨Zd (ZbD hlt (t.out (fun h=>by rw [h.2.2.1] at hok;cases hok))).symm,by obtain⟨n,f⟩:=l.out;exact⟨n+nq,by rw [f];simp⟩⟩
      · by_cases hl:(mat ms k).length=(mat ms 0).length
        · have y:(((mat ms k).length:Int) !=((mat ms 0).length:Int))=false:=by simp [hl]
          have g:=Za hl
          clear hl
          rcases Nat.eq_zero_or_pos k with h0 | h0
          · subst h0
            have J:decide ((0:Int)<0)=false:=by decide
            simp only [Nat.zero_mul,Nat.add_zero] at v u
            clear s
            go_wp2
            go_quiet (first | (go_at_call 70;exact Calls.quiet_of_same (sIn _ _ _ _)) | (go_at_call 72;exact Calls.quiet_of_same (sOk o q (mat ms 0) _ (p.out.drewN _) d)))
            go_wp2
            go_roundw
            case rel=>exact⟨1,by omega,by go_num,fun j G=>by
             rw [show j=0 by omega];exact r.out ⟨a.out.1,a.out.2,hok,g.out,Or.inl (by trivial)⟩,by obtain⟨n,f⟩:=l.out;exact⟨n+nq,by rw [f];simp⟩⟩
            case measure=>simp [intOf];omega
          · obtain⟨j,rfl⟩:∃j,k=j+1:=⟨k-1,by omega⟩
            have c:ZaV wr b off ms:=by obtain⟨n,rfl⟩:=l.out;exact hs
            have L:=(c.at (i:=j) (by omega)).1
            clear c
            have K:(j:Int)<(ms.length:Int):=by omega
            have H:IntKind.i64.wrap (((j+1:Nat):Int)-1)=j:=by rw [IntWalk.i64_in _ ⟨by omega,by omega⟩];omega
            have C:IntKind.i64.wrap ((j:Int)+1-1)=j:=by rw [IntWalk.i64_in _ ⟨by omega,by omega⟩];omega
            have J:(0:Int)<((j+1:Nat):Int):=by omega
            by_cases hr:mid ms (j+1)<=mid ms j
            · go_wp2
              go_quiet (first | (go_at_call 70;exact Calls.quiet_of_same (sIn _ _ _ _)) | (go_at_call 72;exact Calls.quiet_of_same (sOk o q (mat ms (j+1)) _ (p.out.drewN _) d)))
              go_wp2
              go_ret
              exact⟨Zd (ZbD hlt (t.out (fun h=>by have:=h.2.2.2.2;simp at this;omega))).symm,by obtain⟨n,f⟩:=l.out;exact⟨n+nq,by rw [f];simp⟩⟩
            · go_wp2
              go_quiet (first | (go_at_call 70;exact Calls.quiet_of_same (sIn _ _ _ _)) | (go_at_call 72;exact Calls.quiet_of_same (sOk o q (mat ms (j+1)) _ (p.out.drewN _) d)))
              go_wp2
              go_roundw
              case rel=>exact⟨j+1+1,by omega,by go_num,fun i O=>by
               rcases Nat.lt_or_ge i (j+1) with h | h
               · exact D.out i h
               · rw [show i=j+1 by omega];exact r.out ⟨a.out.1,a.out.2,hok,g.out,Or.inr (by simp;omega)⟩,by obtain⟨n,f⟩:=l.out;exact⟨n+nq,by rw [f];simp⟩⟩
              case measure=>simp [intOf];omega
        · have y:(((mat ms k).length:Int) !=((mat ms 0).length:Int))=true:=by simp;omega
          have g:=Za hl
          clear hl
          go_wp2
          go_quiet (first | (go_at_call 70;exact Calls.quiet_of_same (sIn _ _ _ _)) | (go_at_call 72;exact Calls.quiet_of_same (sOk o q (mat ms k) _ (p.out.drewN _) d)))
          go_wp2
          go_ret
          exact⟨Zd (ZbD hlt (t.out (fun h=>g.out h.2.2.2.1))).symm,by obtain⟨n,f⟩:=l.out;exact⟨n+nq,by rw [f];simp⟩⟩
  · go_wp2
    go_ret
    obtain rfl:k=ms.length:=by omega
    exact⟨Zd (Eq.symm (ZgE x.out D.out)),l.out⟩
theorem Zg2(ao:Option Addr)(cap:Nat)(ms:List Mk)(w:World)(hv:Zo w ao ms)(hsm:ZL ms):
 Calls Tryz.prog 114 #[.slice ao ms.length cap] w fun e w'=>e=.returned (.bool (Zt ms))/\∃n,w'=w.drewN n:=by
 rcases Nat.lt_or_ge 60 ms.length with h | h
 · refine (Ziu ao ms.length cap w h hsm.1).mono ?_
   rintro e w' ⟨rfl,rfl⟩
   exact⟨Zd (ZeQ h).symm,0,rfl⟩
 · rcases hv with rfl | ⟨b,off,rfl,hb,hs⟩
   · refine (Zjy ao cap w).mono ?_
     rintro e w' ⟨rfl,rfl⟩
     exact⟨rfl,0,rfl⟩
   · exact Zjz b off cap ms w hs hb hsm h
theorem Zey(m:Mk):ZdE m=true↔1<=m.1/\m.1<=1000000/\okB m.2=true:=by simp [ZdE,inR,and_assoc]
theorem Zea(m l:Mk):Zar m l=true↔l.1<m.1/\m.2.length=l.2.length:=by simp [Zar]
theorem Zm8{ms:List Mk}(h:ZdE (ZJ ms 0)=true):ZbZ ms 0=true:=by
 rw [Zey] at h
 exact (ZZ ms 0).2 ⟨h.1,h.2.1,h.2.2,rfl,Or.inl rfl⟩
theorem Zm9{ms:List Mk}{j:Nat}(hp:ZbZ ms j=true)(h:ZdE (ZJ ms (j+1))=true)(hf:Zar (ZJ ms (j+1)) (ZJ ms j)=true):ZbZ ms (j+1)=true:=by
 rw [Zey] at h
 rw [Zea] at hf
 have:=(ZZ ms j).1 hp
 exact (ZZ ms (j+1)).2 ⟨h.1,h.2.1,h.2.2,hf.2.trans this.2.2.2.1,Or.inr hf.1⟩
theorem Zor{ms:List Mk}{k:Nat}(h:ZdE (ZJ ms k)=false):ZbZ ms k=false:=
 Zdc ms k fun hh=>by rw [(Zey (ZJ ms k)).2 ⟨hh.1,hh.2.1,hh.2.2.1⟩] at h;cases h
theorem Zlj{ms:List Mk}{j:Nat}(hp:ZbZ ms j=true)(hf:Zar (ZJ ms (j+1)) (ZJ ms j)=false):ZbZ ms (j+1)=false:=
 Zdc ms (j+1) fun hh=>by
  have:=(ZZ ms j).1 hp
  have h5:=hh.2.2.2.2
  simp at h5
  rw [(Zea (ZJ ms (j+1)) (ZJ ms j)).2 ⟨h5,hh.2.2.2.1.trans this.2.2.2.1.symm⟩] at hf
  cases hf
theorem Ziv(ao:Option Addr)(n cap:Nat)(w:World)(h:60<n)(hn:n<=1048576):
 Calls Tryz.prog 109 #[.slice ao n cap] w fun e w'=>e=.returned (.bool false)/\w'=w:=by
 go_enter Tryz.func109,Tryz.ntmps109
 go_wp2
 go_ret
 exact⟨rfl,rfl⟩
theorem ZjA(ao:Option Addr)(cap:Nat)(w:World):
 Calls Tryz.prog 109 #[.slice ao 0 cap] w fun e w'=>e=.returned (.bool true)/\w'=w:=by
 go_enter Tryz.func109,Tryz.ntmps109
 go_wp2
 refine wp_loop_rounds 1 ?_
 rw [rounds_succ]
 go_wp2
 go_ret
 exact⟨rfl,rfl⟩
theorem ZjB(b off cap:Nat)(ms:List Mk)(w:World)(hs:ZaV w b off ms)(hb:b<w.heap.size)(hsm:ZL ms)(h60:ms.length<=60):
 Calls Tryz.prog 109 #[.slice (some ⟨b,off,none⟩) ms.length cap] w fun e w'=>e=.returned (.bool (Zt ms))/\Below w.heap.size w w':=by
 obtain⟨V,B⟩:=hsm
 have y:=Za h60
 go_enter Tryz.func109,Tryz.ntmps109
 go_wp2
 go_loopw [10] (fun i wr=>∃k:Nat,k<=ms.length/\i=.int .i64 k/\(∀j,j<k->ZbZ ms j=true)/\Below w.heap.size w wr) (fun i _=>ms.length-(intOf i).toNat)
 case atStart=>exact⟨0,Nat.zero_le _,rfl,fun j N=>by omega,Below.refl _ _⟩
 case round=>
  obtain⟨k,T,rfl,d,L⟩:=hrel
  have s:=Za d
  clear d
  by_cases hlt:k<ms.length
  · obtain⟨x,a,c,v,I⟩:=(hs.below hb (Nat.le_refl _) L).at hlt
    have P:=L.size
    have D:Below wr.heap.size wr (wr.alloc (.cells #[.int .i64 (mid ms k),.slice a (mat ms k).length c] 161)):=(Below.refl _ _).alloc (Nat.le_refl _) _
    have q:=Zy.next I D
    have c0:(wr.alloc (.cells #[.int .i64 (mid ms k),.slice a (mat ms k).length c] 161)).cell? ⟨wr.heap.size,0,none⟩=some (.int .i64 (mid ms k)):=by go_simp
    have c1:(wr.alloc (.cells #[.int .i64 (mid ms k),.slice a (mat ms k).length c] 161)).cell? ⟨wr.heap.size,1,none⟩=some (.slice a (mat ms k).length c):=by go_simp
    have g:(wr.alloc (.cells #[.int .i64 (mid ms k),.slice a (mat ms k).length c] 161)).heap.size=wr.heap.size+1:=by simp
    have H:=Za (Zoq (ZJ ms k) a c _ q (B k))
    have l:=Za (L.trans (D.mono P))
    clear L I q D
    go_wp2_with fail
    refine H.out.mono ?_
    rintro e G ⟨rfl,r⟩
    replace c0:=(r.cell (p:=⟨wr.heap.size,0,none⟩) (by simp)).trans c0
    replace c1:=(r.cell (p:=⟨wr.heap.size,1,none⟩) (by simp)).trans c1
    have t:=Za (l.out.trans (r.mono (by omega)))
    have u:=r.size
    rw [g] at u
    clear r l H g x v
    rcases hg:ZdE (ZJ ms k) with _ | _
    · go_wp2_with fail
      go_ret
      exact⟨Zd (ZbD hlt (Zor hg)).symm,t.out⟩
    · have J:=Za hg
      rcases Nat.eq_zero_or_pos k with h0 | h0
      · subst h0
        have C:decide ((0:Int)<0)=false:=by decide
        go_wp2_with fail
        go_quiet (fail)
        go_wp2_with fail
        go_roundw
        case rel=>exact⟨1,by omega,by go_num,fun j N=>by rw [show j=0 by omega];exact Zm8 J.out,below_drewN t.out _⟩
        case measure=>simp [intOf];omega
      · obtain⟨j,rfl⟩:∃j,k=j+1:=⟨k-1,by omega⟩
        obtain⟨A,n,m,z,-⟩:=(hs.below hb (Nat.le_refl _) t.out).at (i:=j) (by omega)
        have Q:=n0Z j
        have R:(j:Int)<(ms.length:Int):=by omega
        have O:IntKind.i64.wrap (((j+1:Nat):Int)-1)=j:=by rw [IntWalk.i64_in _ ⟨by omega,by omega⟩];omega
        have K:IntKind.i64.wrap ((j:Int)+1-1)=j:=by rw [IntWalk.i64_in _ ⟨by omega,by omega⟩];omega
        have E:IntKind.i64.wrap (j:Int)=j:=IntWalk.i64_in _ ⟨by omega,by omega⟩
        have C:(0:Int)<((j+1:Nat):Int):=by omega
        have F:(0:Int)<(j:Int)+1:=by omega
        have o:b<G.heap.size:=by omega
        have S:=Za (Zm7 (ZJ ms (j+1)) (ZJ ms j) a n c m G.drew)
        go_wp2_with fail
        go_region_held3 (fun w'=>w'.cell? ⟨wr.heap.size,0,none⟩=some (.int .i64 (mid ms (j+1)))/\w'.cell? ⟨wr.heap.size,1,none⟩=some (.slice a (mat ms (j+1)).length c)/\w'.cell? ⟨b,off+j*2,none⟩=some (.int .i64 (mid ms j))/\w'.cell? ⟨b,off+j*2+1,none⟩=some (.slice n (mat ms j).length m))
         (first
           | go_keep
           | (refine⟨(f.cell (p:=⟨wr.heap.size,0,none⟩) (by simp;omega)).trans c0,(f.cell (p:=⟨wr.heap.size,1,none⟩) (by simp;omega)).trans c1,(f.cell (p:=⟨b,off+j*2,none⟩) o).trans A,(f.cell (p:=⟨b,off+j*2+1,none⟩) o).trans z⟩))
         (first
           | (go_at_call 151;refine S.out.mono ?_;rintro e W ⟨rfl,f⟩))
        have M:=Za (t.out.drew.trans (f.mono (by simp;omega)))
        clear f
        rcases hf:Zar (ZJ ms (j+1)) (ZJ ms j) with _ | _
        · go_wp2
          go_ret
          exact⟨Zd (ZbD hlt (Zlj (s.out j (by omega)) hf)).symm,M.out⟩
        · go_wp2
          go_roundw
          case rel=>exact⟨j+1+1,by omega,by go_num,fun i U=>by
           rcases Nat.lt_or_ge i (j+1) with h | h
           · exact s.out i h
           · rw [show i=j+1 by omega];exact Zm9 (s.out j (by omega)) J.out hf,M.out⟩
          case measure=>simp [intOf];omega
  · go_wp2
    go_ret
    obtain rfl:k=ms.length:=by omega
    exact⟨Zd (Eq.symm (ZgE y.out s.out)),L⟩
theorem Zg7(ao:Option Addr)(cap:Nat)(ms:List Mk)(w:World)(hv:Zo w ao ms)(hsm:ZL ms):
 Calls Tryz.prog 109 #[.slice ao ms.length cap] w fun e w'=>e=.returned (.bool (Zt ms))/\Below w.heap.size w w':=by
 rcases Nat.lt_or_ge 60 ms.length with h | h
 · refine (Ziv ao ms.length cap w h hsm.1).mono ?_
   rintro e w' ⟨rfl,rfl⟩
   exact⟨Zd (ZeQ h).symm,Below.refl _ _⟩
 · rcases hv with rfl | ⟨b,off,rfl,hb,hs⟩
   · refine (ZjA ao cap w).mono ?_
     rintro e w' ⟨rfl,rfl⟩
     exact⟨rfl,Below.refl _ _⟩
   · exact ZjB b off cap ms w hs hb hsm h
def Zan(d:Int):Int:=if inR d 0 1000002 then (371*d+17) % 1000003 else -1
def Zbp:Nat->Int->Nat
 | 0,_=>0
 | k+1,d=>if 0<d/\d % 4=0 then Zbp k (d / 4)+1 else 0
def Zh7(d:Int):Int:=if inR d 0 1000002 then (Zbp 3 d:Int) else -1
theorem ZaZ{d lo hi:Int}:inR d lo hi=true↔lo<=d/\d<=hi:=by simp [inR]
theorem Zkn{d:Int}(h:inR d 0 1000002=true):Zan d=(371*d+17) % 1000003:=by simp [Zan,h]
theorem Zko{d:Int}(h:inR d 0 1000002=false):Zan d= -1:=by simp [Zan,h]
theorem Zhb{d:Int}(h:inR d 0 1000002=true):Zh7 d=(Zbp 3 d:Int):=by simp [Zh7,h]
theorem Zkp{d:Int}(h:inR d 0 1000002=false):Zh7 d= -1:=by simp [Zh7,h]
theorem Zke{d:Int}(h:inR d 0 1000002=true):0<=Zan d/\Zan d<=1000002:=by
 rw [Zkn h];omega
theorem ZnW(k:Nat)(d:Int):Zbp k d<=k:=by
 induction k generalizing d with
 | zero=>simp [Zbp]
 | succ k ih=>simp only [Zbp];split <;> have:=ih (d / 4) <;> omega
def ZW(d:Int):Nat->Int
 | 0=>d
 | n+1=>ZW d n / 4
theorem ZbE(d:Int)(n:Nat)(h0:0<=d)(h:d<=1000002):0<=ZW d n/\ZW d n<=1000002:=by
 induction n with
 | zero=>exact⟨h0,h⟩
 | succ n ih=>simp only [ZW];omega
theorem ZgF{k n:Nat}{d:Int}(e:Zbp 3 d=n+Zbp (k+1) (ZW d n))(h:0<ZW d n)(h4:ZW d n % 4=0):Zbp 3 d=(n+1)+Zbp k (ZW d (n+1)):=by
 rw [e];simp only [Zbp,ZW];rw [if_pos ⟨h,h4⟩];omega
theorem ZgG{k n:Nat}{d:Int}(e:Zbp 3 d=n+Zbp k (ZW d n))(h:¬(0<ZW d n/\ZW d n % 4=0)):Zbp 3 d=n:=by
 rw [e];cases k with
 | zero=>rfl
 | succ k=>simp only [Zbp];rw [if_neg h];omega
theorem ZcQ(d:Int)(w:World):
 Calls Tryz.prog 158 #[.int .i64 d] w fun e w'=>e=.returned (.bool (inR d 0 1000002))/\w'=w:=by
 go_enter Tryz.func158,Tryz.ntmps158
 go_wp2_with fail
 refine (sIn d 0 1000002 _).mono ?_
 rintro e a ⟨rfl,rfl⟩
 go_wp2_with fail
 go_ret
 exact⟨rfl,rfl⟩
theorem ZcR(d:Int)(w:World):
 Calls Tryz.prog 152 #[.int .i64 d] w fun e w'=>e=.returned (.bool (inR d 0 1000002))/\w'=w:=by
 by_cases h0:d≥0
 · by_cases h1:d<1000003
   · have a:Hid (inR d 0 1000002=true):=by show inR _ _ _=_;rw [ZaZ];omega
     go_enter Tryz.func152,Tryz.ntmps152
     go_wp2_with fail
     go_ret
     exact⟨Zd (Eq.symm a.out),rfl⟩
   · have a:Hid (inR d 0 1000002=false):=by show inR _ _ _=_;rw [Bool.eq_false_iff,Ne,ZaZ];omega
     go_enter Tryz.func152,Tryz.ntmps152
     go_wp2_with fail
     go_ret
     exact⟨Zd (Eq.symm a.out),rfl⟩
 · have a:Hid (inR d 0 1000002=false):=by show inR _ _ _=_;rw [Bool.eq_false_iff,Ne,ZaZ];omega
   go_enter Tryz.func152,Tryz.ntmps152
   go_wp2_with fail
   go_ret
   exact⟨Zd (Eq.symm a.out),rfl⟩
theorem ZgH{d:Int}(h:inR d 0 1000002=true):IntKind.i64.wrap (371*d)=371*d/\IntKind.i64.wrap (371*d+17)=371*d+17/\(371*d+17).tmod 1000003=Zan d/\IntKind.i64.wrap (Zan d)=Zan d:=by
 have:=ZaZ.1 h
 have a:=Zke h
 refine⟨IntWalk.i64_in _ ⟨by omega,by omega⟩,IntWalk.i64_in _ ⟨by omega,by omega⟩,?_,IntWalk.i64_in _ ⟨by omega,by omega⟩⟩
 rw [Zkn h,Int.tmod_eq_emod_of_nonneg (by omega)]
theorem ZnX(d:Int)(w:World):
 Calls Tryz.prog 162 #[.int .i64 d] w fun e w'=>e=.returned (.int .i64 (Zan d))/\w'=w:=by
 rcases h:inR d 0 1000002 with _ | _
 · have a:=Za (ZcQ d)
   rw [h] at a
   have b:=Za (Zko h)
   clear h
   go_enter Tryz.func162,Tryz.ntmps162
   go_wp2_with fail
   refine (a.out _).mono ?_
   rintro e c ⟨rfl,rfl⟩
   go_wp2_with fail
   go_ret
   exact⟨ZK (Eq.symm b.out),rfl⟩
 · have a:=Za (ZcQ d)
   rw [h] at a
   obtain⟨i,g,j,f⟩:=ZgH h
   clear h
   go_enter Tryz.func162,Tryz.ntmps162
   go_wp2_with fail
   refine (a.out _).mono ?_
   rintro e c ⟨rfl,rfl⟩
   go_wp2_with fail
   go_ret
   exact⟨rfl,rfl⟩
theorem Zos(d:Int)(w:World):
 Calls Tryz.prog 193 #[.int .i64 d] w fun e w'=>e=.returned (.int .i64 (Zan d))/\w'=w:=by
 rcases h:inR d 0 1000002 with _ | _
 · have a:=Za (ZcR d)
   rw [h] at a
   have b:=Za (Zko h)
   clear h
   go_enter Tryz.func193,Tryz.ntmps193
   go_wp2_with fail
   refine (a.out _).mono ?_
   rintro e c ⟨rfl,rfl⟩
   go_wp2_with fail
   go_ret
   exact⟨ZK (Eq.symm b.out),rfl⟩
 · have a:=Za (ZcR d)
   rw [h] at a
   obtain⟨i,g,j,f⟩:=ZgH h
   clear h
   go_enter Tryz.func193,Tryz.ntmps193
   go_wp2_with fail
   refine (a.out _).mono ?_
   rintro e c ⟨rfl,rfl⟩
   go_wp2_with fail
   go_ret
   exact⟨rfl,rfl⟩
theorem Ziw{d:Int}{n:Nat}(h:inR d 0 1000002=true):IntKind.i64.wrap ((ZW d n).tdiv 4)=ZW d (n+1)/\(ZW d n).tdiv 4=ZW d (n+1)/\(ZW d n).tmod 4=ZW d n % 4/\IntKind.i64.wrap (ZW d n % 4)=ZW d n % 4:=by
 obtain⟨b,c⟩:=ZaZ.1 h
 have a:=ZbE d n b c
 have f:=ZbE d (n+1) b c
 have e:(ZW d n).tdiv 4=ZW d (n+1):=Int.tdiv_eq_ediv_of_nonneg a.1
 refine⟨?_,e,Int.tmod_eq_emod_of_nonneg a.1,IntWalk.i64_in _ ⟨by omega,by omega⟩⟩
 rw [e]
 exact IntWalk.i64_in _ ⟨by omega,by omega⟩
theorem Zpf(d:Int)(w:World):
 Calls Tryz.prog 163 #[.int .i64 d] w fun e w'=>e=.returned (.int .i64 (Zh7 d))/\w'=w:=by
 rcases h:inR d 0 1000002 with _ | _
 · have i:=Za (ZcQ d)
   rw [h] at i
   have B:=Za (Zkp h)
   clear h
   go_enter Tryz.func163,Tryz.ntmps163
   go_wp2_with fail
   refine (i.out _).mono ?_
   rintro e v ⟨rfl,rfl⟩
   go_wp2_with fail
   go_ret
   exact⟨ZK (Eq.symm B.out),rfl⟩
 · have i:=Za (ZcQ d)
   rw [h] at i
   have a:=Za h
   clear h
   go_enter Tryz.func163,Tryz.ntmps163
   go_wp2_with fail
   refine (i.out _).mono ?_
   rintro e v ⟨rfl,rfl⟩
   go_wp2_with fail
   go_loopw [0,3] (fun A q wr=>∃n:Nat,n<=3/\A=.int .i64 (ZW d n)/\q=.int .i64 n/\Zbp 3 d=n+Zbp (3-n) (ZW d n)/\wr=v) (fun A q _=>3-(intOf q).toNat)
   case atStart=>exact⟨0,by omega,rfl,rfl,by simp [ZW],rfl⟩
   case round=>
    obtain⟨n,G,rfl,rfl,l,rfl⟩:=hrel
    obtain⟨E,H,F,D⟩:=Ziw (n:=n) a.out
    have I:=ZbE d n (ZaZ.1 a.out).1 (ZaZ.1 a.out).2
    have t:Hid (wrap64 (ZW d (n+1))=ZW d (n+1)):=by
     show wrap64 _=_
     have:=ZbE d (n+1) (ZaZ.1 a.out).1 (ZaZ.1 a.out).2
     unfold wrap64
     omega
    have f:=Za l
    have C:IntKind.i64.wrap ((n:Int)+1)=((n+1:Nat):Int):=by rw [IntWalk.i64_in _ ⟨by omega,by omega⟩];omega
    clear l
    have b:=Za (Zhb a.out)
    have j:Hid (¬(0<ZW d n/\ZW d n % 4=0)->Zbp 3 d=n):=fun r=>ZgG f.out r
    have s:Hid (n=3->Zbp 3 d=n):=fun r=>by have:=f.out;subst r;simpa [Zbp] using this
    have p:Hid (n<3->0<ZW d n->ZW d n % 4=0->Zbp 3 d=(n+1)+Zbp (3-(n+1)) (ZW d (n+1))):=fun z m k=>by
     have e:=f.out
     rw [show 3-n=(3-(n+1))+1 by omega] at e
     exact ZgF e m k
    clear f
    by_cases z:n<3
    · have o:(n:Int)<3:=by omega
      by_cases m:ZW d n > 0
      · rcases k:ZW d n % 4 ==0 with _ | _
        · have g:ZW d n % 4≠0:=by simpa using k
          have c:=Za (j.out (by omega))
          clear g
          generalize ZW d n=x at *
          generalize ZW d (n+1)=y at *
          go_wp2_with fail
          go_ret
          exact⟨ZK (by rw [b.out,c.out]),rfl⟩
        · have g:ZW d n % 4=0:=by simpa using k
          have c:=Za (p.out z m g)
          clear g
          generalize hx:ZW d n=x at *
          generalize hy:ZW d (n+1)=y at *
          have u:=Za hy
          clear hx hy
          go_wp2_with fail
          go_roundw
          case rel=>exact⟨n+1,by omega,by rw [u.out];first | rfl | exact congrArg _ t.out,by first | trivial | rfl,by rw [u.out];exact c.out,by first | trivial | rfl⟩
          case measure=>simp [intOf];omega
      · have c:=Za (j.out (by omega))
        generalize ZW d n=x at *
        generalize ZW d (n+1)=y at *
        go_wp2_with fail
        go_ret
        exact⟨ZK (by rw [b.out,c.out]),rfl⟩
    · have c:=Za (s.out (by omega))
      have o:¬(n:Int)<3:=by omega
      by_cases m:ZW d n > 0
      · rcases k:ZW d n % 4 ==0 with _ | _
        · generalize ZW d n=x at *
          generalize ZW d (n+1)=y at *
          go_wp2_with fail
          go_ret
          exact⟨ZK (by rw [b.out,c.out]),rfl⟩
        · generalize ZW d n=x at *
          generalize ZW d (n+1)=y at *
          go_wp2_with fail
          go_ret
          exact⟨ZK (by rw [b.out,c.out]),rfl⟩
      · generalize ZW d n=x at *
        generalize ZW d (n+1)=y at *
        go_wp2_with fail
        go_ret
        exact⟨ZK (by rw [b.out,c.out]),rfl⟩
theorem Zpg(d:Int)(w:World):
 Calls Tryz.prog 170 #[.int .i64 d] w fun e w'=>e=.returned (.int .i64 (Zh7 d))/\w'=w:=by
 rcases h:inR d 0 1000002 with _ | _
 · have i:=Za (ZcR d)
   rw [h] at i
   have B:=Za (Zkp h)
   clear h
   go_enter Tryz.func170,Tryz.ntmps170
   go_wp2_with fail
   refine (i.out _).mono ?_
   rintro e v ⟨rfl,rfl⟩
   go_wp2_with fail
   go_ret
   exact⟨ZK (Eq.symm B.out),rfl⟩
 · have i:=Za (ZcR d)
   rw [h] at i
   have a:=Za h
   clear h
   go_enter Tryz.func170,Tryz.ntmps170
   go_wp2_with fail
   refine (i.out _).mono ?_
   rintro e v ⟨rfl,rfl⟩
   go_wp2_with fail
   go_loopw [3,4] (fun q A wr=>∃n:Nat,n<=3/\A=.int .i64 (ZW d n)/\q=.int .i64 n/\Zbp 3 d=n+Zbp (3-n) (ZW d n)/\wr=v) (fun q A _=>3-(intOf q).toNat)
   case atStart=>exact⟨0,by omega,rfl,rfl,by simp [ZW],rfl⟩
   case round=>
    obtain⟨n,G,rfl,rfl,k,rfl⟩:=hrel
    obtain⟨E,H,F,D⟩:=Ziw (n:=n) a.out
    have I:=ZbE d n (ZaZ.1 a.out).1 (ZaZ.1 a.out).2
    have t:Hid (wrap64 (ZW d (n+1))=ZW d (n+1)):=by
     show wrap64 _=_
     have:=ZbE d (n+1) (ZaZ.1 a.out).1 (ZaZ.1 a.out).2
     unfold wrap64
     omega
    have b:=Za k
    have C:IntKind.i64.wrap ((n:Int)+1)=((n+1:Nat):Int):=by rw [IntWalk.i64_in _ ⟨by omega,by omega⟩];omega
    clear k
    have g:=Za (Zhb a.out)
    have j:Hid (¬(0<ZW d n/\ZW d n % 4=0)->Zbp 3 d=n):=fun r=>ZgG b.out r
    have s:Hid (n=3->Zbp 3 d=n):=fun r=>by have:=b.out;subst r;simpa [Zbp] using this
    have p:Hid (n<3->0<ZW d n->ZW d n % 4=0->Zbp 3 d=(n+1)+Zbp (3-(n+1)) (ZW d (n+1))):=fun z o l=>by
     have e:=b.out
     rw [show 3-n=(3-(n+1))+1 by omega] at e
     exact ZgF e o l
    clear b
    by_cases z:n<3
    · have m:(n:Int)<3:=by omega
      by_cases o:ZW d n > 0
      · rcases l:ZW d n % 4 ==0 with _ | _
        · have c:ZW d n % 4≠0:=by simpa using l
          have f:=Za (j.out (by omega))
          clear c
          generalize ZW d n=x at *
          generalize ZW d (n+1)=y at *
          go_wp2_with fail
          go_ret
          exact⟨ZK (by rw [g.out,f.out]),rfl⟩
        · have c:ZW d n % 4=0:=by simpa using l
          have f:=Za (p.out z o c)
          clear c
          generalize hx:ZW d n=x at *
          generalize hy:ZW d (n+1)=y at *
          have u:=Za hy
          clear hx hy
          go_wp2_with fail
          go_roundw
          case rel=>exact⟨n+1,by omega,by rw [u.out];first | rfl | exact congrArg _ t.out,by first | trivial | rfl,by rw [u.out];exact f.out,by first | trivial | rfl⟩
          case measure=>simp [intOf];omega
      · have f:=Za (j.out (by omega))
        generalize ZW d n=x at *
        generalize ZW d (n+1)=y at *
        go_wp2_with fail
        go_ret
        exact⟨ZK (by rw [g.out,f.out]),rfl⟩
    · have f:=Za (s.out (by omega))
      have m:¬(n:Int)<3:=by omega
      generalize ZW d n=x at *
      generalize ZW d (n+1)=y at *
      go_wp2_with fail
      go_ret
      exact⟨ZK (by rw [g.out,f.out]),rfl⟩
end Go.Proofs.YtilkaeclgmcolaaGreat
