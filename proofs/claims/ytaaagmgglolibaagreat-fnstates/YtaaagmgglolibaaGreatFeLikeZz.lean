import Derived.Test.YtaaagmgglolibaaGreatFeHelpZz
import Derived.Test.YtaaagmgglolibaaGreatMovedSZz
import Derived.Test.YtaaagmgglolibaaGreatBytesZz
import Derived.Test.YtaaagmgglolibaaGreatTwArgsZz
import Derived.Deep.CutBlock
import Derived.Deep.DeepCutAuto
set_option maxRecDepth 100000
set_option maxHeartbeats 2000000
namespace Go.Proofs.YtaaagmgglolibaaGreat
open Go Go.RowKit
theorem ZmI(m:Mk)(ao ao':Option Addr)(cap cap':Nat)(w:World)(hv:Zs w ao m.2)(hv':Zs w ao' m.2)(hn:m.2.length<=1048576):
 Calls Tryz.prog 208 #[.agg #[.int .i64 m.1,.slice ao m.2.length cap],.agg #[.int .i64 m.1,.slice ao' m.2.length cap']] w fun e w'=>e=.returned (.bool true)/\Below w.heap.size w w':=by
 have L0:Below w.heap.size w ((w.alloc (.cells #[.int .i64 m.1,.slice ao m.2.length cap] 29)).alloc (.cells #[.int .i64 m.1,.slice ao' m.2.length cap'] 29)):=
  ((Below.refl _ _).alloc (Nat.le_refl _) _).alloc (by simp) _
 have hb:(m.1 ==m.1)=true:=by simp
 have hself:decide (m.2=m.2)=true:=by simp
 have HL:=Za (ZnD ao ao' cap cap' m.2 m.2 _ (hv.next L0) (hv'.next L0) hn)
 rw [hself] at HL
 clear hv hv' hself
 go_enter Tryz.func208,Tryz.ntmps208
 go_wp2_with fail
 refine HL.out.mono ?_
 rintro e w1 ⟨rfl,n1,rfl⟩
 go_wp2_with fail
 go_ret
 exact⟨rfl,below_drewN L0 _⟩
theorem Zhh(ao ao':Option Addr)(cap cap':Nat)(ms:List Mk)(w:World)(hv:Zq w ao ms)(hv':Zq w ao' ms)(hsm:ZX ms):
 Calls Tryz.prog 123 #[.slice ao ms.length cap,.slice ao' ms.length cap'] w fun e w'=>e=.returned (.bool true)/\Below w.heap.size w w':=by
 have hlb:((ms.length:Int) !=(ms.length:Int))=false:=by simp
 have HV:=Za hv
 have HV':=Za hv'
 have HSM:=Za hsm
 have hn:=hsm.1
 clear hv hv' hsm
 go_enter Tryz.func123,Tryz.ntmps123
 go_wp2_with fail
 go_loopw [5] (fun i wr=>∃k:Nat,k<=ms.length/\i=.int .i64 k/\Below w.heap.size w wr) (fun i _=>ms.length-(intOf i).toNat)
 case atStart=>exact⟨0,Nat.zero_le _,rfl,Below.refl _ _⟩
 case round=>
  obtain⟨k,hk,rfl,L⟩:=hrel
  by_cases hlt:k<ms.length
  · obtain⟨b,off,rfl,hb,hs⟩:=ZbX (HV.out.next L) (by omega)
    obtain⟨b',off',rfl,hb',hs'⟩:=ZbX (HV'.out.next L) (by omega)
    obtain⟨c0,a,c,c1,va⟩:=hs k hlt
    obtain⟨d0,a',c',d1,va'⟩:=hs' k hlt
    have hl:(ZH ms k).2.length<=1048576:=HSM.out.2 k
    have HH:Hid (∀W,Below wr.heap.size wr W->Calls Tryz.prog 208 #[.agg #[.int .i64 (ZH ms k).1,.slice a (ZH ms k).2.length c],.agg #[.int .i64 (ZH ms k).1,.slice a' (ZH ms k).2.length c']] W fun e w'=>e=.returned (.bool true)/\Below w.heap.size w w'):=fun W LW=>
     (ZmI (ZH ms k) a a' c c' W (va.next LW) (va'.next LW) hl).mono (by rintro e w' ⟨rfl,L'⟩;exact⟨rfl,Zd L (Zd LW L')⟩)
    have hi0:(0:Int)<=(k:Int):=Int.natCast_nonneg _
    have hi1:(k:Int)<(ms.length:Int):=by omega
    clear va va' hs hs' L
    generalize (ZH ms k).1=x at *
    generalize (ZH ms k).2.length=m at *
    go_wp2_with fail
    go_region_with (go_at_call 208;refine (HH.out _ (below_drewN (Below.refl _ _) 1)).mono ?_;rintro e w2 ⟨rfl,L2⟩;have HL2:=Za L2;clear L2)
    all_goals (
     simp only [Exit.then]
     go_wp2_with fail
     go_roundw
     case rel=>exact⟨k+1,by omega,by go_num,HL2.out⟩
     case measure=>simp [intOf];omega)
  · go_wp2_with fail
    go_ret
    exact⟨rfl,L⟩
theorem ZmJ(am am' al al':Option Addr)(cm cm' cl cl' ll:Nat)(ms:List Mk)(w:World)(hv:Zq w am ms)(hv':Zq w am' ms)(hsm:ZX ms)
 (hL:∀W,Below w.heap.size w W->Calls Tryz.prog 124 #[.slice al ll cl,.slice al' ll cl'] W fun e w'=>e=.returned (.bool true)/\Below W.heap.size W w'):
 Calls Tryz.prog 29 #[.agg #[.slice am ms.length cm,.slice al ll cl],.agg #[.slice am' ms.length cm',.slice al' ll cl']] w fun e w'=>e=.returned (.bool true)/\Below w.heap.size w w':=by
 obtain⟨W1,hW1⟩:∃W,w.alloc (.cells #[.slice am ms.length cm,.slice al ll cl] 47)=W:=⟨_,rfl⟩
 obtain⟨W,hW⟩:∃W,W1.alloc (.cells #[.slice am' ms.length cm',.slice al' ll cl'] 47)=W:=⟨_,rfl⟩
 have s1:W1.heap.size=w.heap.size+1:=by rw [<-hW1];simp
 have b1:Below w.heap.size w W1:=by rw [<-hW1];exact (Below.refl _ _).alloc (Nat.le_refl _) _
 have b2:Below W1.heap.size W1 W:=by rw [<-hW];exact (Below.refl _ _).alloc (Nat.le_refl _) _
 have t1:W.heap[w.heap.size]? =some (.cells #[.slice am ms.length cm,.slice al ll cl] 47):=(b2.block _ (by omega)).trans (by rw [<-hW1];exact heap_alloc_new w _)
 have t2:W.heap[w.heap.size+1]? =some (.cells #[.slice am' ms.length cm',.slice al' ll cl'] 47):=by rw [<-hW,<-s1];exact heap_alloc_new W1 _
 have L:=Zd b1 b2
 have sz:W.heap.size=w.heap.size+1+1:=by rw [<-hW];simp [s1]
 obtain⟨k0,k1,-,-⟩:=Z6 t1
 obtain⟨j0,j1,-,-⟩:=Z6 t2
 have HM:=Za (Zhh am am' cm cm' ms W (hv.next L) (hv'.next L) hsm)
 have HL:=Za hL
 have HB:=Za L
 have HT:=Za (And.intro t1 t2)
 clear hv hv' hL L b1 b2 t1 t2 hsm
 go_enter Tryz.func29,Tryz.ntmps29
 go_wp2_with fail
 refine HM.out.mono ?_
 rintro e w2 ⟨rfl,L2⟩
 obtain⟨x0,x1,-,-⟩:=Z6 ((L2.block _ (by omega)).trans HT.out.1)
 obtain⟨y0,y1,-,-⟩:=Z6 ((L2.block _ (by omega)).trans HT.out.2)
 have HL2:=Za (Zd HB.out L2)
 clear L2 hW hW1
 go_wp2_with fail
 refine (HL.out _ HL2.out).mono ?_
 rintro e w3 ⟨rfl,L3⟩
 have HL3:=Za (Zd HL2.out L3)
 clear L3
 go_wp2_with fail
 go_ret
 exact⟨rfl,HL3.out⟩
theorem Zn1(ao ao':Option Addr)(cap cap':Nat)(ls:List (List Int))(w:World)(hv:Z8 w ao ls)(hv':Z8 w ao' ls)(hsm:ZaZ ls):
 Calls Tryz.prog 124 #[.slice ao ls.length cap,.slice ao' ls.length cap'] w fun e w'=>e=.returned (.bool true)/\∃n,w'=w.drewN n:=by
 have hlb:((ls.length:Int) !=(ls.length:Int))=false:=by simp
 have hn:=hsm.1
 have HV:=Za hv
 have HV':=Za hv'
 have HAT:=Za hsm.2
 clear hv hv' hsm
 go_enter Tryz.func124,Tryz.ntmps124
 go_wp2_with fail
 go_loopw [5] (fun i wr=>∃k:Nat,k<=ls.length/\i=.int .i64 k/\∃n,wr=w.drewN n) (fun i _=>ls.length-(intOf i).toNat)
 case atStart=>exact⟨0,Nat.zero_le _,rfl,0,rfl⟩
 case round=>
  obtain⟨k,hk,rfl,hw⟩:=hrel
  have HW:=Za hw
  clear hw
  by_cases hlt:k<ls.length
  · have v1:Z8 wr ao ls:=by obtain⟨n,rfl⟩:=HW.out;exact HV.out.drewN n
    have v2:Z8 wr ao' ls:=by obtain⟨n,rfl⟩:=HW.out;exact HV'.out.drewN n
    obtain⟨b,off,rfl,hb,s1⟩:=v1.seg (by omega)
    obtain⟨b',off',rfl,hb',s2⟩:=v2.seg (by omega)
    obtain⟨a,c,c1,va⟩:=s1 k hlt
    obtain⟨a',c',c2,va'⟩:=s2 k hlt
    have HE:=Za (fun n=>ZnD a a' c c' (cn ls k) (cn ls k) (wr.drewN n) (va.drewN n) (va'.drewN n) (HAT.out k))
    have hse:decide (cn ls k=cn ls k)=true:=by simp
    rw [hse] at HE
    have hi0:(0:Int)<=(k:Int):=Int.natCast_nonneg _
    have hi1:(k:Int)<(ls.length:Int):=by omega
    clear va va' v1 v2 s1 s2 hse
    generalize cn ls k=x at *
    go_wp2_with fail
    go_quiet (first | (go_at_call 62;exact Calls.quiet_of (HE.out _)))
    go_wp2_with fail
    go_roundw
    case rel=>exact⟨k+1,by omega,by go_num,by obtain⟨n,hn⟩:=HW.out;exact⟨n+nq,by rw [hn];simp⟩⟩
    case measure=>simp [intOf];omega
  · go_wp2_with fail
    go_ret
    exact⟨rfl,HW.out⟩
theorem Zle(a a':Option Addr)(c c':Nat)(d:Int)(ts:List Wb)(w:World)(hv:Zz true w a ts)(hv':Zz true w a' ts)(hsm:ZaB ts):
 Calls Tryz.prog 18 #[.agg #[.int .i64 d,.slice a ts.length c],.agg #[.int .i64 d,.slice a' ts.length c']] w fun e w'=>e=.returned (.bool true)/\Below w.heap.size w w':=by
 obtain⟨W1,hW1⟩:∃W,w.alloc (.cells #[.int .i64 d,.slice a ts.length c] 26)=W:=⟨_,rfl⟩
 obtain⟨W,hW⟩:∃W,W1.alloc (.cells #[.int .i64 d,.slice a' ts.length c'] 26)=W:=⟨_,rfl⟩
 have s1:W1.heap.size=w.heap.size+1:=by rw [<-hW1];simp
 have b1:Below w.heap.size w W1:=by rw [<-hW1];exact (Below.refl _ _).alloc (Nat.le_refl _) _
 have b2:Below W1.heap.size W1 W:=by rw [<-hW];exact (Below.refl _ _).alloc (Nat.le_refl _) _
 have t1:Two W w.heap.size (.int .i64 d) (.slice a ts.length c) 26:=by
  have:Two W1 w.heap.size (.int .i64 d) (.slice a ts.length c) 26:=by rw [<-hW1];exact Two.new w _ _ _
  exact this.below b2
 have t2:Two W (w.heap.size+1) (.int .i64 d) (.slice a' ts.length c') 26:=by rw [<-hW,<-s1];exact Two.new W1 _ _ _
 have HT:=Za (And.intro t1 t2)
 have HB:=Za (Zd b1 b2)
 have HV:=Za (hv.next (Zd b1 b2))
 have HV':=Za (hv'.next (Zd b1 b2))
 have HSM:=Za hsm
 have hn:=hsm.1
 have hdb:(d !=d)=false:=by simp
 have hlb:((ts.length:Int) !=(ts.length:Int))=false:=by simp
 have HWW:Hid ((w.alloc (.cells #[.int .i64 d,.slice a ts.length c] 26)).alloc (.cells #[.int .i64 d,.slice a' ts.length c'] 26)=W):=by show _=_;rw [hW1,hW]
 have k0:=t1.c0
 have k1:=t1.c1
 have l0:=t2.c0
 have l1:=t2.c1
 clear s1 b1 b2 t1 t2 hW1 hW hv hv' hsm
 go_enter Tryz.func18,Tryz.ntmps18
 go_upto_region 1 with fail
 rw [HWW.out]
 clear HWW
 go_wp2_with fail
 go_loopw [5] (fun i wr=>∃k:Nat,k<=ts.length/\i=.int .i64 k/\Below W.heap.size W wr) (fun i _=>ts.length-(intOf i).toNat)
 case atStart=>exact⟨0,Nat.zero_le _,rfl,Below.refl _ _⟩
 case round=>
  obtain⟨k,hk,rfl,L⟩:=hrel
  have k1:=(HT.out.1.below L).c1
  have l1:=(HT.out.2.below L).c1
  by_cases hlt:k<ts.length
  · obtain⟨b,off,am,cm,al,cl,rfl,hb,c0,c1,hmv,hcv,-⟩:=(HV.out.next L).web hlt
    obtain⟨b',off',am',cm',al',cl',rfl,hb',e0,e1,hmv',hcv',-⟩:=(HV'.out.next L).web hlt
    obtain⟨hms,hcs⟩:=HSM.out.2 k
    have HH:Hid (∀W',Below wr.heap.size wr W'->Calls Tryz.prog 29 #[.agg #[.slice am (Zl ts k).1.length cm,.slice al (Zl ts k).2.length cl],.agg #[.slice am' (Zl ts k).1.length cm',.slice al' (Zl ts k).2.length cl']] W' fun e w'=>e=.returned (.bool true)/\Below W.heap.size W w'):=fun W' LW=>
     (ZmJ am am' al al' cm cm' cl cl' (Zl ts k).2.length (Zl ts k).1 W' (hmv.next LW) (hmv'.next LW) hms (fun W'' L''=>(Zn1 al al' cl cl' (Zl ts k).2 W'' ((hcv.next LW).next L'') ((hcv'.next LW).next L'') hcs).mono (fun e w' hh=>⟨hh.1,by obtain⟨n',hn'⟩:=hh.2;rw [hn'];exact below_drewN (Below.refl _ _) n'⟩))).mono (by rintro e w' ⟨rfl,L'⟩;exact⟨rfl,Zd L (Zd LW L')⟩)
    have hi0:(0:Int)<=(k:Int):=Int.natCast_nonneg _
    have hi1:(k:Int)<(ts.length:Int):=by omega
    clear hmv hcv hmv' hcv' hms hcs L
    generalize (Zl ts k).1.length=m1 at *
    generalize (Zl ts k).2.length=m2 at *
    go_wp2_with fail
    go_region_with (go_at_call 29;refine (HH.out _ (below_drewN (Below.refl _ _) 1)).mono ?_;rintro e w2 ⟨rfl,L2⟩;have HL2:=Za L2;clear L2)
    all_goals (
     simp only [Exit.then]
     go_wp2_with fail
     go_roundw
     case rel=>exact⟨k+1,by omega,by go_num,HL2.out⟩
     case measure=>simp [intOf];omega)
  · have HL:=Za (Zd HB.out L)
    clear L
    go_wp2_with fail
    go_ret
    exact⟨rfl,HL.out⟩
theorem Zn2(am am' aw aw':Option Addr)(cm cm' cw cw':Nat)(wd d nx:Int)(ms:List Mk)(ts:List Wb)(w:World)(hm:Zq w am ms)(hm':Zq w am' ms)(hv:Zz true w aw ts)(hv':Zz true w aw' ts)(hsm:Z5 ms ts):
 Calls Tryz.prog 38 #[.agg #[.int .i64 wd,.slice am ms.length cm,.int .i64 d,.slice aw ts.length cw,.int .i64 nx],.agg #[.int .i64 wd,.slice am' ms.length cm',.int .i64 d,.slice aw' ts.length cw',.int .i64 nx]] w fun e w'=>e=.returned (.bool true)/\Below w.heap.size w w':=by
 obtain⟨W1,hW1⟩:∃W,w.alloc (.cells #[.int .i64 wd,.slice am ms.length cm,.int .i64 d,.slice aw ts.length cw,.int .i64 nx] 52)=W:=⟨_,rfl⟩
 obtain⟨W,hW⟩:∃W,W1.alloc (.cells #[.int .i64 wd,.slice am' ms.length cm',.int .i64 d,.slice aw' ts.length cw',.int .i64 nx] 52)=W:=⟨_,rfl⟩
 have s1:W1.heap.size=w.heap.size+1:=by rw [<-hW1];simp
 have b1:Below w.heap.size w W1:=by rw [<-hW1];exact (Below.refl _ _).alloc (Nat.le_refl _) _
 have b2:Below W1.heap.size W1 W:=by rw [<-hW];exact (Below.refl _ _).alloc (Nat.le_refl _) _
 have t1:Z7 true W w.heap.size am aw cm cw wd ms d ts nx:=by
  have:Z7 true W1 w.heap.size am aw cm cw wd ms d ts nx:=by rw [<-hW1];exact Z7.box hm hv
  exact this.below b2
 have t2:Z7 true W (w.heap.size+1) am' aw' cm' cw' wd ms d ts nx:=by
  rw [<-hW,<-s1];exact Z7.box (hm'.next b1) (hv'.next b1)
 have HT:=Za (And.intro t1 t2)
 have HB:=Za (Zd b1 b2)
 have HM:=Za (Zhh am am' cm cm' ms W t1.mv t2.mv hsm.1)
 have HW:Hid (∀W',Below W.heap.size W W'->Calls Tryz.prog 18 #[.agg #[.int .i64 d,.slice aw ts.length cw],.agg #[.int .i64 d,.slice aw' ts.length cw']] W' fun e w'=>e=.returned (.bool true)/\Below W'.heap.size W' w'):=fun W' L=>Zle aw aw' cw cw' d ts W' (t1.below L).wv (t2.below L).wv hsm.2.1
 have HWW:Hid ((w.alloc (.cells #[.int .i64 wd,.slice am ms.length cm,.int .i64 d,.slice aw ts.length cw,.int .i64 nx] 52)).alloc (.cells #[.int .i64 wd,.slice am' ms.length cm',.int .i64 d,.slice aw' ts.length cw',.int .i64 nx] 52)=W):=by show _=_;rw [hW1,hW]
 have k0:=t1.c0
 have k1:=t1.c1
 have l0:=t2.c0
 have l1:=t2.c1
 clear s1 b1 b2 t1 t2 hW1 hW hm hm' hv hv' hsm
 go_enter Tryz.func38,Tryz.ntmps38
 go_upto_region 1 with fail
 rw [HWW.out]
 clear HWW
 go_wp2_with fail
 refine HM.out.mono ?_
 rintro e w2 ⟨rfl,L2⟩
 have HL2:=Za L2
 have k2:=(HT.out.1.below L2).c2
 have k3:=(HT.out.1.below L2).c3
 have l2:=(HT.out.2.below L2).c2
 have l3:=(HT.out.2.below L2).c3
 have HW2:=Za (HW.out w2 L2)
 clear L2 HM HW k0 k1 l0 l1
 go_wp2_with fail
 refine HW2.out.mono ?_
 rintro e w3 ⟨rfl,L3⟩
 have HL3:=Za (Zd HL2.out L3)
 have k4:=(HT.out.1.below HL3.out).c4
 have l4:=(HT.out.2.below HL3.out).c4
 clear L3 HW2 k2 k3 l2 l3
 go_wp2_with fail
 go_ret
 exact⟨rfl,Zd HB.out HL3.out⟩
theorem ZmK(v v':Value)(wd d nx:Int)(ms:List Mk)(ts:List Wb)(w:World)(h:StV w v wd ms d ts nx)(h':StV w v' wd ms d ts nx)(hsm:Z5 ms ts):
 Calls Tryz.prog 38 #[v,v'] w fun e w'=>e=.returned (.bool true)/\Below w.heap.size w w':=by
 obtain⟨am,cm,aw,cw,rfl,hm,hv⟩:=h
 obtain⟨am',cm',aw',cw',rfl,hm',hv'⟩:=h'
 exact Zn2 am am' aw aw' cm cm' cw cw' wd d nx ms ts w hm hm' hv hv' hsm
end Go.Proofs.YtaaagmgglolibaaGreat
