import Derived.Test.YtaaagmgglolibaaGreatMSizeZz
import Derived.Deep.RegionHeld3
set_option maxRecDepth 100000
set_option maxHeartbeats 2000000
namespace Go.Proofs.YtaaagmgglolibaaGreat
open Go Go.RowKit
theorem Tryz.info29:(Tryz.prog.info? 29).map (fun i=>(i.zero,i.size,i.bytes))=some (some (.agg #[.int .i64 0,.slice none 0 0]),2,32):=by kernel_rfl
def inR(x lo hi:Int):Bool:=decide (lo<=x) && decide (x<=hi)
theorem Zfu{x lo hi:Int}(h1:lo<=x)(h2:x<=hi):inR x lo hi=true:=by simp [inR,h1,h2]
theorem ZjA{x lo hi:Int}(h1:¬lo<=x):inR x lo hi=false:=by simp [inR,h1]
theorem ZhQ{x lo hi:Int}(h2:¬x<=hi):inR x lo hi=false:=by simp [inR,h2]
theorem Zor{x lo hi:Int}(h:inR x lo hi=true):lo<=x/\x<=hi:=by simpa [inR] using h
theorem Znh{x lo hi:Int}(h:inR x lo hi=false):¬(lo<=x/\x<=hi):=by intro hh;rw [Zfu hh.1 hh.2] at h;cases h
theorem sIn(x lo hi:Int)(w:World):
 Calls Tryz.prog 119 #[.int .i64 x,.int .i64 lo,.int .i64 hi] w fun e w'=>e=.returned (.bool (inR x lo hi))/\w'=w:=by
 by_cases h1:lo<=x
 · by_cases h2:x<=hi
   · have HV:=Za (Zfu h1 h2)
     go_enter Tryz.func119,Tryz.ntmps119
     go_wp2
     go_ret
     exact⟨Zg HV.out.symm,rfl⟩
   · have HV:=Za (ZhQ (lo:=lo) h2)
     go_enter Tryz.func119,Tryz.ntmps119
     go_wp2
     go_ret
     exact⟨Zg HV.out.symm,rfl⟩
 · have HV:=Za (ZjA (hi:=hi) h1)
   go_enter Tryz.func119,Tryz.ntmps119
   go_wp2
   go_ret
   exact⟨Zg HV.out.symm,rfl⟩
def Zdn(m:Mk):Bool:=inR m.1 1 1000000 && okB m.2
def Zar(m l:Mk):Bool:=decide (l.1<m.1) && decide (m.2.length=l.2.length)
theorem iUpTo(k:Int)(w:World):
 Calls Tryz.prog 157 #[.int .i64 k] w fun e w'=>e=.returned (.bool (inR k 1 1000000))/\w'=w:=by
 by_cases h1:1<=k
 · by_cases h2:k<=1000000
   · have HV:=Za (Zfu h1 h2)
     go_enter Tryz.func157,Tryz.ntmps157
     go_wp2
     go_ret
     exact⟨Zg HV.out.symm,rfl⟩
   · have HV:=Za (ZhQ (lo:=1) h2)
     go_enter Tryz.func157,Tryz.ntmps157
     go_wp2
     go_ret
     exact⟨Zg HV.out.symm,rfl⟩
 · have HV:=Za (ZjA (hi:=1000000) h1)
   go_enter Tryz.func157,Tryz.ntmps157
   go_wp2
   go_ret
   exact⟨Zg HV.out.symm,rfl⟩
theorem Zni(m:Mk)(ao:Option Addr)(cap:Nat)(w:World)(hv:Zs w ao m.2)(hn:m.2.length<=1048576):
 Calls Tryz.prog 213 #[.agg #[.int .i64 m.1,.slice ao m.2.length cap]] w fun e w'=>e=.returned (.bool (Zdn m))/\Below w.heap.size w w':=by
 have L0:Below w.heap.size w (w.alloc (.cells #[.int .i64 m.1,.slice ao m.2.length cap] 29)):=(Below.refl _ _).alloc (Nat.le_refl _) _
 have HP:=Za (fun W (L:Below w.heap.size w W)=>iOk ao cap m.2 W (Zs.next hv L) hn)
 have HU:=Za (fun W=>iUpTo m.1 W)
 have HL:=Za L0
 obtain⟨b,hb⟩:∃b,inR m.1 1 1000000=b:=⟨_,rfl⟩
 rw [hb] at HU
 have HV:Hid (Zdn m=(b && okB m.2)):=by show Zdn m=_;simp [Zdn,hb]
 clear hb hv L0
 go_enter Tryz.func213,Tryz.ntmps213
 go_wp2_with fail
 refine (HU.out _).mono ?_
 rintro e w1 ⟨rfl,rfl⟩
 cases b with
 | true=>
   go_wp2_with fail
   refine (HP.out _ HL.out).mono ?_
   rintro e w1 ⟨rfl,rfl⟩
   go_wp2_with fail
   go_ret
   exact⟨Zg HV.out.symm,HL.out⟩
 | false=>
   go_wp2_with fail
   go_ret
   exact⟨Zg HV.out.symm,HL.out⟩
theorem Zl9(m l:Mk)(ao ao':Option Addr)(cap cap':Nat)(w:World):
 Calls Tryz.prog 214 #[.agg #[.int .i64 m.1,.slice ao m.2.length cap],.agg #[.int .i64 l.1,.slice ao' l.2.length cap']] w fun e w'=>e=.returned (.bool (Zar m l))/\Below w.heap.size w w':=by
 have L0:Below w.heap.size w ((w.alloc (.cells #[.int .i64 m.1,.slice ao m.2.length cap] 29)).alloc (.cells #[.int .i64 l.1,.slice ao' l.2.length cap'] 29)):=
  ((Below.refl _ _).alloc (Nat.le_refl _) _).alloc (by simp) _
 by_cases h1:l.1<m.1
 · by_cases h2:m.2.length=l.2.length
   · have HV:Hid (Zar m l=true):=by show Zar m l=_;simp [Zar,h1,h2]
     have hb:((m.2.length:Int) ==(l.2.length:Int))=true:=by simp [h2]
     clear h2
     go_enter Tryz.func214,Tryz.ntmps214
     go_wp2_with fail
     go_ret
     exact⟨Zg HV.out.symm,L0⟩
   · have HV:Hid (Zar m l=false):=by show Zar m l=_;simp [Zar,h2]
     have hb:((m.2.length:Int) ==(l.2.length:Int))=false:=by simp;omega
     clear h2
     go_enter Tryz.func214,Tryz.ntmps214
     go_wp2_with fail
     go_ret
     exact⟨Zg HV.out.symm,L0⟩
 · have HV:Hid (Zar m l=false):=by show Zar m l=_;simp [Zar,h1]
   go_enter Tryz.func214,Tryz.ntmps214
   go_wp2_with fail
   go_ret
   exact⟨Zg HV.out.symm,L0⟩
theorem ZhR(ao:Option Addr)(n cap:Nat)(w:World)(h:60<n)(hn:n<=1048576):
 Calls Tryz.prog 139 #[.slice ao n cap] w fun e w'=>e=.returned (.bool false)/\w'=w:=by
 go_enter Tryz.func139,Tryz.ntmps139
 go_wp2
 go_ret
 exact⟨rfl,rfl⟩
theorem ZiV(ao:Option Addr)(cap:Nat)(w:World):
 Calls Tryz.prog 139 #[.slice ao 0 cap] w fun e w'=>e=.returned (.bool true)/\w'=w:=by
 go_enter Tryz.func139,Tryz.ntmps139
 go_wp2
 refine wp_loop_rounds 1 ?_
 rw [rounds_succ]
 go_wp2
 go_ret
 exact⟨rfl,rfl⟩
theorem ZiW(b off cap:Nat)(ms:List Mk)(w:World)(hs:Zbi w b off ms)(_hb:b<w.heap.size)(hsm:ZX ms)(h60:ms.length<=60):
 Calls Tryz.prog 139 #[.slice (some ⟨b,off,none⟩) ms.length cap] w fun e w'=>e=.returned (.bool (Zn ms))/\∃n,w'=w.drewN n:=by
 obtain⟨hn,hat⟩:=hsm
 have H60:=Za h60
 go_enter Tryz.func139,Tryz.ntmps139
 go_wp2
 go_loopw [3] (fun i wr=>∃k:Nat,k<=ms.length/\i=.int .i64 k/\(∀j,j<k->ZbU ms j=true)/\∃n,wr=w.drewN n) (fun i _=>ms.length-(intOf i).toNat)
 case atStart=>exact⟨0,Nat.zero_le _,rfl,fun j hj=>by omega,0,rfl⟩
 case round=>
  obtain⟨k,hk,rfl,hall,hw⟩:=hrel
  have HA:=Za hall
  have HW:Hid (∃n,wr=w.drewN n):=hw
  clear hall hw
  by_cases hlt:k<ms.length
  · have hsw:Zbi wr b off ms:=by obtain⟨n,rfl⟩:=HW.out;exact hs
    obtain⟨hc0,ao,ca,hc1,hv⟩:=hsw.at hlt
    obtain⟨-,ao0,ca0,hd1,-⟩:=hsw.at (i:=0) (by omega)
    rw [Nat.zero_mul,Nat.add_zero] at hd1
    have hi0:(0:Int)<=(k:Int):=Int.natCast_nonneg _
    have hi1:(k:Int)<(ms.length:Int):=by omega
    have hi2:(0:Int)<(ms.length:Int):=by omega
    have hnk:=hat k
    have HV:=Za hv
    have HO:=Za (ZcX ms k)
    have HO1:=Za (ZG ms k).2
    clear hv hsw
    rcases hin:inR (mid ms k) 1 1000000 with _ | _
    · have HIN:=Za (Znh hin)
      go_wp2
      go_quiet (first | (go_at_call 119;exact Calls.quiet_of_same (sIn _ _ _ _)) | (go_at_call 27;exact Calls.quiet_of_same (sOk ao ca (mat ms k) _ (HV.out.drewN _) hnk)))
      go_wp2
      go_ret
      exact⟨Zg (ZbC hlt (HO.out (fun h=>HIN.out ⟨h.1,h.2.1⟩))).symm,by obtain⟨n,hn⟩:=HW.out;exact⟨n+nq,by rw [hn];simp⟩⟩
    · have HIN:=Za (Zor hin)
      rcases hok:okB (mat ms k) with _ | _
      · go_wp2
        go_quiet (first | (go_at_call 119;exact Calls.quiet_of_same (sIn _ _ _ _)) | (go_at_call 27;exact Calls.quiet_of_same (sOk ao ca (mat ms k) _ (HV.out.drewN _) hnk)))
        go_wp2
        go_ret
        exact⟨Zg (ZbC hlt (HO.out (fun h=>by rw [h.2.2.1] at hok;cases hok))).symm,by obtain⟨n,hn⟩:=HW.out;exact⟨n+nq,by rw [hn];simp⟩⟩
      · by_cases hl:(mat ms k).length=(mat ms 0).length
        · have hlb:(((mat ms k).length:Int) !=((mat ms 0).length:Int))=false:=by simp [hl]
          have HLN:=Za hl
          clear hl
          rcases Nat.eq_zero_or_pos k with h0 | h0
          · subst h0
            have hg:decide ((0:Int)<0)=false:=by decide
            simp only [Nat.zero_mul,Nat.add_zero] at hc0 hc1
            clear hd1
            go_wp2
            go_quiet (first | (go_at_call 119;exact Calls.quiet_of_same (sIn _ _ _ _)) | (go_at_call 27;exact Calls.quiet_of_same (sOk ao ca (mat ms 0) _ (HV.out.drewN _) hnk)))
            go_wp2
            go_roundw
            case rel=>exact⟨1,by omega,by go_num,fun j hj=>by
             rw [show j=0 by omega];exact HO1.out ⟨HIN.out.1,HIN.out.2,hok,HLN.out,Or.inl (by trivial)⟩,by obtain⟨n,hn⟩:=HW.out;exact⟨n+nq,by rw [hn];simp⟩⟩
            case measure=>simp [intOf];omega
          · obtain⟨j,rfl⟩:∃j,k=j+1:=⟨k-1,by omega⟩
            have hsw:Zbi wr b off ms:=by obtain⟨n,rfl⟩:=HW.out;exact hs
            have he0:=(hsw.at (i:=j) (by omega)).1
            clear hsw
            have hj1:(j:Int)<(ms.length:Int):=by omega
            have hwr:IntKind.i64.wrap (((j+1:Nat):Int)-1)=j:=by rw [IntWalk.i64_in _ ⟨by omega,by omega⟩];omega
            have hwr2:IntKind.i64.wrap ((j:Int)+1-1)=j:=by rw [IntWalk.i64_in _ ⟨by omega,by omega⟩];omega
            have hg:(0:Int)<((j+1:Nat):Int):=by omega
            by_cases hr:mid ms (j+1)<=mid ms j
            · go_wp2
              go_quiet (first | (go_at_call 119;exact Calls.quiet_of_same (sIn _ _ _ _)) | (go_at_call 27;exact Calls.quiet_of_same (sOk ao ca (mat ms (j+1)) _ (HV.out.drewN _) hnk)))
              go_wp2
              go_ret
              exact⟨Zg (ZbC hlt (HO.out (fun h=>by have:=h.2.2.2.2;simp at this;omega))).symm,by obtain⟨n,hn⟩:=HW.out;exact⟨n+nq,by rw [hn];simp⟩⟩
            · go_wp2
              go_quiet (first | (go_at_call 119;exact Calls.quiet_of_same (sIn _ _ _ _)) | (go_at_call 27;exact Calls.quiet_of_same (sOk ao ca (mat ms (j+1)) _ (HV.out.drewN _) hnk)))
              go_wp2
              go_roundw
              case rel=>exact⟨j+1+1,by omega,by go_num,fun i hi=>by
               rcases Nat.lt_or_ge i (j+1) with h | h
               · exact HA.out i h
               · rw [show i=j+1 by omega];exact HO1.out ⟨HIN.out.1,HIN.out.2,hok,HLN.out,Or.inr (by simp;omega)⟩,by obtain⟨n,hn⟩:=HW.out;exact⟨n+nq,by rw [hn];simp⟩⟩
              case measure=>simp [intOf];omega
        · have hlb:(((mat ms k).length:Int) !=((mat ms 0).length:Int))=true:=by simp;omega
          have HLN:=Za hl
          clear hl
          go_wp2
          go_quiet (first | (go_at_call 119;exact Calls.quiet_of_same (sIn _ _ _ _)) | (go_at_call 27;exact Calls.quiet_of_same (sOk ao ca (mat ms k) _ (HV.out.drewN _) hnk)))
          go_wp2
          go_ret
          exact⟨Zg (ZbC hlt (HO.out (fun h=>HLN.out h.2.2.2.1))).symm,by obtain⟨n,hn⟩:=HW.out;exact⟨n+nq,by rw [hn];simp⟩⟩
  · go_wp2
    go_ret
    obtain rfl:k=ms.length:=by omega
    exact⟨Zg (Eq.symm (Zei H60.out HA.out)),HW.out⟩
theorem Zgv(ao:Option Addr)(cap:Nat)(ms:List Mk)(w:World)(hv:Zq w ao ms)(hsm:ZX ms):
 Calls Tryz.prog 139 #[.slice ao ms.length cap] w fun e w'=>e=.returned (.bool (Zn ms))/\∃n,w'=w.drewN n:=by
 rcases Nat.lt_or_ge 60 ms.length with h | h
 · refine (ZhR ao ms.length cap w h hsm.1).mono ?_
   rintro e w' ⟨rfl,rfl⟩
   exact⟨Zg (ZeC h).symm,0,rfl⟩
 · rcases hv with rfl | ⟨b,off,rfl,hb,hs⟩
   · refine (ZiV ao cap w).mono ?_
     rintro e w' ⟨rfl,rfl⟩
     exact⟨rfl,0,rfl⟩
   · exact ZiW b off cap ms w hs hb hsm h
theorem Zep(m:Mk):Zdn m=true↔1<=m.1/\m.1<=1000000/\okB m.2=true:=by simp [Zdn,inR,and_assoc]
theorem ZdZ(m l:Mk):Zar m l=true↔l.1<m.1/\m.2.length=l.2.length:=by simp [Zar]
theorem Zma{ms:List Mk}(h:Zdn (ZH ms 0)=true):ZbU ms 0=true:=by
 rw [Zep] at h
 exact (ZG ms 0).2 ⟨h.1,h.2.1,h.2.2,rfl,Or.inl rfl⟩
theorem Zmb{ms:List Mk}{j:Nat}(hp:ZbU ms j=true)(h:Zdn (ZH ms (j+1))=true)(hf:Zar (ZH ms (j+1)) (ZH ms j)=true):ZbU ms (j+1)=true:=by
 rw [Zep] at h
 rw [ZdZ] at hf
 have:=(ZG ms j).1 hp
 exact (ZG ms (j+1)).2 ⟨h.1,h.2.1,h.2.2,hf.2.trans this.2.2.2.1,Or.inr hf.1⟩
theorem Znj{ms:List Mk}{k:Nat}(h:Zdn (ZH ms k)=false):ZbU ms k=false:=
 ZcX ms k fun hh=>by rw [(Zep (ZH ms k)).2 ⟨hh.1,hh.2.1,hh.2.2.1⟩] at h;cases h
theorem ZkB{ms:List Mk}{j:Nat}(hp:ZbU ms j=true)(hf:Zar (ZH ms (j+1)) (ZH ms j)=false):ZbU ms (j+1)=false:=
 ZcX ms (j+1) fun hh=>by
  have:=(ZG ms j).1 hp
  have h5:=hh.2.2.2.2
  simp at h5
  rw [(ZdZ (ZH ms (j+1)) (ZH ms j)).2 ⟨h5,hh.2.2.2.1.trans this.2.2.2.1.symm⟩] at hf
  cases hf
theorem ZhS(ao:Option Addr)(n cap:Nat)(w:World)(h:60<n)(hn:n<=1048576):
 Calls Tryz.prog 136 #[.slice ao n cap] w fun e w'=>e=.returned (.bool false)/\w'=w:=by
 go_enter Tryz.func136,Tryz.ntmps136
 go_wp2
 go_ret
 exact⟨rfl,rfl⟩
theorem ZiX(ao:Option Addr)(cap:Nat)(w:World):
 Calls Tryz.prog 136 #[.slice ao 0 cap] w fun e w'=>e=.returned (.bool true)/\w'=w:=by
 go_enter Tryz.func136,Tryz.ntmps136
 go_wp2
 refine wp_loop_rounds 1 ?_
 rw [rounds_succ]
 go_wp2
 go_ret
 exact⟨rfl,rfl⟩
theorem ZiY(b off cap:Nat)(ms:List Mk)(w:World)(hs:Zbi w b off ms)(hb:b<w.heap.size)(hsm:ZX ms)(h60:ms.length<=60):
 Calls Tryz.prog 136 #[.slice (some ⟨b,off,none⟩) ms.length cap] w fun e w'=>e=.returned (.bool (Zn ms))/\Below w.heap.size w w':=by
 obtain⟨hn,hat⟩:=hsm
 have H60:=Za h60
 go_enter Tryz.func136,Tryz.ntmps136
 go_wp2
 go_loopw [10] (fun i wr=>∃k:Nat,k<=ms.length/\i=.int .i64 k/\(∀j,j<k->ZbU ms j=true)/\Below w.heap.size w wr) (fun i _=>ms.length-(intOf i).toNat)
 case atStart=>exact⟨0,Nat.zero_le _,rfl,fun j hj=>by omega,Below.refl _ _⟩
 case round=>
  obtain⟨k,hk,rfl,hall,L⟩:=hrel
  have HA:=Za hall
  clear hall
  by_cases hlt:k<ms.length
  · obtain⟨hc0,ao,ca,hc1,hv⟩:=(hs.below hb (Nat.le_refl _) L).at hlt
    have hz:=L.size
    have L0:Below wr.heap.size wr (wr.alloc (.cells #[.int .i64 (mid ms k),.slice ao (mat ms k).length ca] 29)):=(Below.refl _ _).alloc (Nat.le_refl _) _
    have hv0:=Zs.next hv L0
    have c0:(wr.alloc (.cells #[.int .i64 (mid ms k),.slice ao (mat ms k).length ca] 29)).cell? ⟨wr.heap.size,0,none⟩=some (.int .i64 (mid ms k)):=by go_simp
    have c1:(wr.alloc (.cells #[.int .i64 (mid ms k),.slice ao (mat ms k).length ca] 29)).cell? ⟨wr.heap.size,1,none⟩=some (.slice ao (mat ms k).length ca):=by go_simp
    have hsz:(wr.alloc (.cells #[.int .i64 (mid ms k),.slice ao (mat ms k).length ca] 29)).heap.size=wr.heap.size+1:=by simp
    have HC:=Za (Zni (ZH ms k) ao ca _ hv0 (hat k))
    have HLL:=Za (L.trans (L0.mono hz))
    clear L hv hv0 L0
    go_wp2_with fail
    refine HC.out.mono ?_
    rintro e w1 ⟨rfl,L1⟩
    replace c0:=(L1.cell (p:=⟨wr.heap.size,0,none⟩) (by simp)).trans c0
    replace c1:=(L1.cell (p:=⟨wr.heap.size,1,none⟩) (by simp)).trans c1
    have L2:=Za (HLL.out.trans (L1.mono (by omega)))
    have hz1:=L1.size
    rw [hsz] at hz1
    clear L1 HLL HC hsz hc0 hc1
    rcases hg:Zdn (ZH ms k) with _ | _
    · go_wp2_with fail
      go_ret
      exact⟨Zg (ZbC hlt (Znj hg)).symm,L2.out⟩
    · have HG:=Za hg
      rcases Nat.eq_zero_or_pos k with h0 | h0
      · subst h0
        have hgd:decide ((0:Int)<0)=false:=by decide
        go_wp2_with fail
        go_quiet (fail)
        go_wp2_with fail
        go_roundw
        case rel=>exact⟨1,by omega,by go_num,fun j hj=>by rw [show j=0 by omega];exact Zma HG.out,below_drewN L2.out _⟩
        case measure=>simp [intOf];omega
      · obtain⟨j,rfl⟩:∃j,k=j+1:=⟨k-1,by omega⟩
        obtain⟨he0,ao',ca',he1,-⟩:=(hs.below hb (Nat.le_refl _) L2.out).at (i:=j) (by omega)
        have hj0:(0:Int)<=(j:Int):=Int.natCast_nonneg _
        have hj1:(j:Int)<(ms.length:Int):=by omega
        have hwr:IntKind.i64.wrap (((j+1:Nat):Int)-1)=j:=by rw [IntWalk.i64_in _ ⟨by omega,by omega⟩];omega
        have hwr2:IntKind.i64.wrap ((j:Int)+1-1)=j:=by rw [IntWalk.i64_in _ ⟨by omega,by omega⟩];omega
        have hwr3:IntKind.i64.wrap (j:Int)=j:=IntWalk.i64_in _ ⟨by omega,by omega⟩
        have hgd:(0:Int)<((j+1:Nat):Int):=by omega
        have hgd2:(0:Int)<(j:Int)+1:=by omega
        have hbw:b<w1.heap.size:=by omega
        have HF:=Za (Zl9 (ZH ms (j+1)) (ZH ms j) ao ao' ca ca' w1.drew)
        go_wp2_with fail
        go_region_held3 (fun w'=>w'.cell? ⟨wr.heap.size,0,none⟩=some (.int .i64 (mid ms (j+1)))/\w'.cell? ⟨wr.heap.size,1,none⟩=some (.slice ao (mat ms (j+1)).length ca)/\w'.cell? ⟨b,off+j*2,none⟩=some (.int .i64 (mid ms j))/\w'.cell? ⟨b,off+j*2+1,none⟩=some (.slice ao' (mat ms j).length ca'))
         (first
           | go_keep
           | (refine⟨(L3.cell (p:=⟨wr.heap.size,0,none⟩) (by simp;omega)).trans c0,(L3.cell (p:=⟨wr.heap.size,1,none⟩) (by simp;omega)).trans c1,(L3.cell (p:=⟨b,off+j*2,none⟩) hbw).trans he0,(L3.cell (p:=⟨b,off+j*2+1,none⟩) hbw).trans he1⟩))
         (first
           | (go_at_call 214;refine HF.out.mono ?_;rintro e w2 ⟨rfl,L3⟩))
        have LF:=Za (L2.out.drew.trans (L3.mono (by simp;omega)))
        clear L3
        rcases hf:Zar (ZH ms (j+1)) (ZH ms j) with _ | _
        · go_wp2
          go_ret
          exact⟨Zg (ZbC hlt (ZkB (HA.out j (by omega)) hf)).symm,LF.out⟩
        · go_wp2
          go_roundw
          case rel=>exact⟨j+1+1,by omega,by go_num,fun i hi=>by
           rcases Nat.lt_or_ge i (j+1) with h | h
           · exact HA.out i h
           · rw [show i=j+1 by omega];exact Zmb (HA.out j (by omega)) HG.out hf,LF.out⟩
          case measure=>simp [intOf];omega
  · go_wp2
    go_ret
    obtain rfl:k=ms.length:=by omega
    exact⟨Zg (Eq.symm (Zei H60.out HA.out)),L⟩
theorem ZgB(ao:Option Addr)(cap:Nat)(ms:List Mk)(w:World)(hv:Zq w ao ms)(hsm:ZX ms):
 Calls Tryz.prog 136 #[.slice ao ms.length cap] w fun e w'=>e=.returned (.bool (Zn ms))/\Below w.heap.size w w':=by
 rcases Nat.lt_or_ge 60 ms.length with h | h
 · refine (ZhS ao ms.length cap w h hsm.1).mono ?_
   rintro e w' ⟨rfl,rfl⟩
   exact⟨Zg (ZeC h).symm,Below.refl _ _⟩
 · rcases hv with rfl | ⟨b,off,rfl,hb,hs⟩
   · refine (ZiX ao cap w).mono ?_
     rintro e w' ⟨rfl,rfl⟩
     exact⟨rfl,Below.refl _ _⟩
   · exact ZiY b off cap ms w hs hb hsm h
def Zad(d:Int):Int:=if inR d 0 1000002 then (371*d+17) % 1000003 else -1
def Zbs:Nat->Int->Nat
 | 0,_=>0
 | k+1,d=>if 0<d/\d % 4=0 then Zbs k (d / 4)+1 else 0
def Zhr(d:Int):Int:=if inR d 0 1000002 then (Zbs 3 d:Int) else -1
theorem Za6{d lo hi:Int}:inR d lo hi=true↔lo<=d/\d<=hi:=by simp [inR]
theorem ZjB{d:Int}(h:inR d 0 1000002=true):Zad d=(371*d+17) % 1000003:=by simp [Zad,h]
theorem ZjC{d:Int}(h:inR d 0 1000002=false):Zad d= -1:=by simp [Zad,h]
theorem ZgE{d:Int}(h:inR d 0 1000002=true):Zhr d=(Zbs 3 d:Int):=by simp [Zhr,h]
theorem ZjD{d:Int}(h:inR d 0 1000002=false):Zhr d= -1:=by simp [Zhr,h]
theorem ZgD{d:Int}(h:inR d 0 1000002=true):0<=Zad d/\Zad d<=1000002:=by
 rw [ZjB h];omega
theorem ZmO(k:Nat)(d:Int):Zbs k d<=k:=by
 induction k generalizing d with
 | zero=>simp [Zbs]
 | succ k ih=>simp only [Zbs];split <;> have:=ih (d / 4) <;> omega
def ZP(d:Int):Nat->Int
 | 0=>d
 | n+1=>ZP d n / 4
theorem ZbD(d:Int)(n:Nat)(h0:0<=d)(h:d<=1000002):0<=ZP d n/\ZP d n<=1000002:=by
 induction n with
 | zero=>exact⟨h0,h⟩
 | succ n ih=>simp only [ZP];omega
theorem Zgd{k n:Nat}{d:Int}(e:Zbs 3 d=n+Zbs (k+1) (ZP d n))(h:0<ZP d n)(h4:ZP d n % 4=0):Zbs 3 d=(n+1)+Zbs k (ZP d (n+1)):=by
 rw [e];simp only [Zbs,ZP];rw [if_pos ⟨h,h4⟩];omega
theorem Zge{k n:Nat}{d:Int}(e:Zbs 3 d=n+Zbs k (ZP d n))(h:¬(0<ZP d n/\ZP d n % 4=0)):Zbs 3 d=n:=by
 rw [e];cases k with
 | zero=>rfl
 | succ k=>simp only [Zbs];rw [if_neg h];omega
theorem ZcC(d:Int)(w:World):
 Calls Tryz.prog 114 #[.int .i64 d] w fun e w'=>e=.returned (.bool (inR d 0 1000002))/\w'=w:=by
 go_enter Tryz.func114,Tryz.ntmps114
 go_wp2_with fail
 refine (sIn d 0 1000002 _).mono ?_
 rintro e w1 ⟨rfl,rfl⟩
 go_wp2_with fail
 go_ret
 exact⟨rfl,rfl⟩
theorem ZcD(d:Int)(w:World):
 Calls Tryz.prog 111 #[.int .i64 d] w fun e w'=>e=.returned (.bool (inR d 0 1000002))/\w'=w:=by
 by_cases h0:d≥0
 · by_cases h1:d<1000003
   · have HR:Hid (inR d 0 1000002=true):=by show inR _ _ _=_;rw [Za6];omega
     go_enter Tryz.func111,Tryz.ntmps111
     go_wp2_with fail
     go_ret
     exact⟨Zg (Eq.symm HR.out),rfl⟩
   · have HR:Hid (inR d 0 1000002=false):=by show inR _ _ _=_;rw [Bool.eq_false_iff,Ne,Za6];omega
     go_enter Tryz.func111,Tryz.ntmps111
     go_wp2_with fail
     go_ret
     exact⟨Zg (Eq.symm HR.out),rfl⟩
 · have HR:Hid (inR d 0 1000002=false):=by show inR _ _ _=_;rw [Bool.eq_false_iff,Ne,Za6];omega
   go_enter Tryz.func111,Tryz.ntmps111
   go_wp2_with fail
   go_ret
   exact⟨Zg (Eq.symm HR.out),rfl⟩
theorem Zgf{d:Int}(h:inR d 0 1000002=true):IntKind.i64.wrap (371*d)=371*d/\IntKind.i64.wrap (371*d+17)=371*d+17/\(371*d+17).tmod 1000003=Zad d/\IntKind.i64.wrap (Zad d)=Zad d:=by
 have:=Za6.1 h
 have hr:=ZgD h
 refine⟨IntWalk.i64_in _ ⟨by omega,by omega⟩,IntWalk.i64_in _ ⟨by omega,by omega⟩,?_,IntWalk.i64_in _ ⟨by omega,by omega⟩⟩
 rw [ZjB h,Int.tmod_eq_emod_of_nonneg (by omega)]
theorem ZmP(d:Int)(w:World):
 Calls Tryz.prog 30 #[.int .i64 d] w fun e w'=>e=.returned (.int .i64 (Zad d))/\w'=w:=by
 rcases h:inR d 0 1000002 with _ | _
 · have HD:=Za (ZcC d)
   rw [h] at HD
   have HR:=Za (ZjC h)
   clear h
   go_enter Tryz.func30,Tryz.ntmps30
   go_wp2_with fail
   refine (HD.out _).mono ?_
   rintro e w1 ⟨rfl,rfl⟩
   go_wp2_with fail
   go_ret
   exact⟨ZK (Eq.symm HR.out),rfl⟩
 · have HD:=Za (ZcC d)
   rw [h] at HD
   obtain⟨e1,e2,e3,e4⟩:=Zgf h
   clear h
   go_enter Tryz.func30,Tryz.ntmps30
   go_wp2_with fail
   refine (HD.out _).mono ?_
   rintro e w1 ⟨rfl,rfl⟩
   go_wp2_with fail
   go_ret
   exact⟨rfl,rfl⟩
theorem Znk(d:Int)(w:World):
 Calls Tryz.prog 184 #[.int .i64 d] w fun e w'=>e=.returned (.int .i64 (Zad d))/\w'=w:=by
 rcases h:inR d 0 1000002 with _ | _
 · have HD:=Za (ZcD d)
   rw [h] at HD
   have HR:=Za (ZjC h)
   clear h
   go_enter Tryz.func184,Tryz.ntmps184
   go_wp2_with fail
   refine (HD.out _).mono ?_
   rintro e w1 ⟨rfl,rfl⟩
   go_wp2_with fail
   go_ret
   exact⟨ZK (Eq.symm HR.out),rfl⟩
 · have HD:=Za (ZcD d)
   rw [h] at HD
   obtain⟨e1,e2,e3,e4⟩:=Zgf h
   clear h
   go_enter Tryz.func184,Tryz.ntmps184
   go_wp2_with fail
   refine (HD.out _).mono ?_
   rintro e w1 ⟨rfl,rfl⟩
   go_wp2_with fail
   go_ret
   exact⟨rfl,rfl⟩
theorem ZhT{d:Int}{n:Nat}(h:inR d 0 1000002=true):IntKind.i64.wrap ((ZP d n).tdiv 4)=ZP d (n+1)/\(ZP d n).tdiv 4=ZP d (n+1)/\(ZP d n).tmod 4=ZP d n % 4/\IntKind.i64.wrap (ZP d n % 4)=ZP d n % 4:=by
 obtain⟨h0,h1⟩:=Za6.1 h
 have hb:=ZbD d n h0 h1
 have hb':=ZbD d (n+1) h0 h1
 have e:(ZP d n).tdiv 4=ZP d (n+1):=Int.tdiv_eq_ediv_of_nonneg hb.1
 refine⟨?_,e,Int.tmod_eq_emod_of_nonneg hb.1,IntWalk.i64_in _ ⟨by omega,by omega⟩⟩
 rw [e]
 exact IntWalk.i64_in _ ⟨by omega,by omega⟩
theorem Zn8(d:Int)(w:World):
 Calls Tryz.prog 28 #[.int .i64 d] w fun e w'=>e=.returned (.int .i64 (Zhr d))/\w'=w:=by
 rcases h:inR d 0 1000002 with _ | _
 · have HD:=Za (ZcC d)
   rw [h] at HD
   have HR:=Za (ZjD h)
   clear h
   go_enter Tryz.func28,Tryz.ntmps28
   go_wp2_with fail
   refine (HD.out _).mono ?_
   rintro e w1 ⟨rfl,rfl⟩
   go_wp2_with fail
   go_ret
   exact⟨ZK (Eq.symm HR.out),rfl⟩
 · have HD:=Za (ZcC d)
   rw [h] at HD
   have HIN:=Za h
   clear h
   go_enter Tryz.func28,Tryz.ntmps28
   go_wp2_with fail
   refine (HD.out _).mono ?_
   rintro e w1 ⟨rfl,rfl⟩
   go_wp2_with fail
   go_loopw [0,3] (fun dv nv wr=>∃n:Nat,n<=3/\dv=.int .i64 (ZP d n)/\nv=.int .i64 n/\Zbs 3 d=n+Zbs (3-n) (ZP d n)/\wr=w1) (fun dv nv _=>3-(intOf nv).toNat)
   case atStart=>exact⟨0,by omega,rfl,rfl,by simp [ZP],rfl⟩
   case round=>
    obtain⟨n,hn,rfl,rfl,hlv,rfl⟩:=hrel
    obtain⟨e1,e2,e3,e4⟩:=ZhT (n:=n) HIN.out
    have hb:=ZbD d n (Za6.1 HIN.out).1 (Za6.1 HIN.out).2
    have HYW:Hid (wrap64 (ZP d (n+1))=ZP d (n+1)):=by
     show wrap64 _=_
     have:=ZbD d (n+1) (Za6.1 HIN.out).1 (Za6.1 HIN.out).2
     unfold wrap64
     omega
    have HLV:=Za hlv
    have hw1:IntKind.i64.wrap ((n:Int)+1)=((n+1:Nat):Int):=by rw [IntWalk.i64_in _ ⟨by omega,by omega⟩];omega
    clear hlv
    have HEV:=Za (ZgE HIN.out)
    have HST:Hid (¬(0<ZP d n/\ZP d n % 4=0)->Zbs 3 d=n):=fun hc=>Zge HLV.out hc
    have HS3:Hid (n=3->Zbs 3 d=n):=fun hc=>by have:=HLV.out;subst hc;simpa [Zbs] using this
    have HSU:Hid (n<3->0<ZP d n->ZP d n % 4=0->Zbs 3 d=(n+1)+Zbs (3-(n+1)) (ZP d (n+1))):=fun h3 hp hm=>by
     have e:=HLV.out
     rw [show 3-n=(3-(n+1))+1 by omega] at e
     exact Zgd e hp hm
    clear HLV
    by_cases h3:n<3
    · have h3i:(n:Int)<3:=by omega
      by_cases hp:ZP d n > 0
      · rcases hm:ZP d n % 4 ==0 with _ | _
        · have hmn:ZP d n % 4≠0:=by simpa using hm
          have HL:=Za (HST.out (by omega))
          clear hmn
          generalize ZP d n=x at *
          generalize ZP d (n+1)=y at *
          go_wp2_with fail
          go_ret
          exact⟨ZK (by rw [HEV.out,HL.out]),rfl⟩
        · have hmn:ZP d n % 4=0:=by simpa using hm
          have HL:=Za (HSU.out h3 hp hmn)
          clear hmn
          generalize hx:ZP d n=x at *
          generalize hy:ZP d (n+1)=y at *
          have HY:=Za hy
          clear hx hy
          go_wp2_with fail
          go_roundw
          case rel=>exact⟨n+1,by omega,by rw [HY.out];first | rfl | exact congrArg _ HYW.out,by first | trivial | rfl,by rw [HY.out];exact HL.out,by first | trivial | rfl⟩
          case measure=>simp [intOf];omega
      · have HL:=Za (HST.out (by omega))
        generalize ZP d n=x at *
        generalize ZP d (n+1)=y at *
        go_wp2_with fail
        go_ret
        exact⟨ZK (by rw [HEV.out,HL.out]),rfl⟩
    · have HL:=Za (HS3.out (by omega))
      have h3i:¬(n:Int)<3:=by omega
      by_cases hp:ZP d n > 0
      · rcases hm:ZP d n % 4 ==0 with _ | _
        · generalize ZP d n=x at *
          generalize ZP d (n+1)=y at *
          go_wp2_with fail
          go_ret
          exact⟨ZK (by rw [HEV.out,HL.out]),rfl⟩
        · generalize ZP d n=x at *
          generalize ZP d (n+1)=y at *
          go_wp2_with fail
          go_ret
          exact⟨ZK (by rw [HEV.out,HL.out]),rfl⟩
      · generalize ZP d n=x at *
        generalize ZP d (n+1)=y at *
        go_wp2_with fail
        go_ret
        exact⟨ZK (by rw [HEV.out,HL.out]),rfl⟩
theorem Zn9(d:Int)(w:World):
 Calls Tryz.prog 102 #[.int .i64 d] w fun e w'=>e=.returned (.int .i64 (Zhr d))/\w'=w:=by
 rcases h:inR d 0 1000002 with _ | _
 · have HD:=Za (ZcD d)
   rw [h] at HD
   have HR:=Za (ZjD h)
   clear h
   go_enter Tryz.func102,Tryz.ntmps102
   go_wp2_with fail
   refine (HD.out _).mono ?_
   rintro e w1 ⟨rfl,rfl⟩
   go_wp2_with fail
   go_ret
   exact⟨ZK (Eq.symm HR.out),rfl⟩
 · have HD:=Za (ZcD d)
   rw [h] at HD
   have HIN:=Za h
   clear h
   go_enter Tryz.func102,Tryz.ntmps102
   go_wp2_with fail
   refine (HD.out _).mono ?_
   rintro e w1 ⟨rfl,rfl⟩
   go_wp2_with fail
   go_loopw [3,4] (fun nv dv wr=>∃n:Nat,n<=3/\dv=.int .i64 (ZP d n)/\nv=.int .i64 n/\Zbs 3 d=n+Zbs (3-n) (ZP d n)/\wr=w1) (fun nv dv _=>3-(intOf nv).toNat)
   case atStart=>exact⟨0,by omega,rfl,rfl,by simp [ZP],rfl⟩
   case round=>
    obtain⟨n,hn,rfl,rfl,hlv,rfl⟩:=hrel
    obtain⟨e1,e2,e3,e4⟩:=ZhT (n:=n) HIN.out
    have hb:=ZbD d n (Za6.1 HIN.out).1 (Za6.1 HIN.out).2
    have HYW:Hid (wrap64 (ZP d (n+1))=ZP d (n+1)):=by
     show wrap64 _=_
     have:=ZbD d (n+1) (Za6.1 HIN.out).1 (Za6.1 HIN.out).2
     unfold wrap64
     omega
    have HLV:=Za hlv
    have hw1:IntKind.i64.wrap ((n:Int)+1)=((n+1:Nat):Int):=by rw [IntWalk.i64_in _ ⟨by omega,by omega⟩];omega
    clear hlv
    have HEV:=Za (ZgE HIN.out)
    have HST:Hid (¬(0<ZP d n/\ZP d n % 4=0)->Zbs 3 d=n):=fun hc=>Zge HLV.out hc
    have HS3:Hid (n=3->Zbs 3 d=n):=fun hc=>by have:=HLV.out;subst hc;simpa [Zbs] using this
    have HSU:Hid (n<3->0<ZP d n->ZP d n % 4=0->Zbs 3 d=(n+1)+Zbs (3-(n+1)) (ZP d (n+1))):=fun h3 hp hm=>by
     have e:=HLV.out
     rw [show 3-n=(3-(n+1))+1 by omega] at e
     exact Zgd e hp hm
    clear HLV
    by_cases h3:n<3
    · have h3i:(n:Int)<3:=by omega
      by_cases hp:ZP d n > 0
      · rcases hm:ZP d n % 4 ==0 with _ | _
        · have hmn:ZP d n % 4≠0:=by simpa using hm
          have HL:=Za (HST.out (by omega))
          clear hmn
          generalize ZP d n=x at *
          generalize ZP d (n+1)=y at *
          go_wp2_with fail
          go_ret
          exact⟨ZK (by rw [HEV.out,HL.out]),rfl⟩
        · have hmn:ZP d n % 4=0:=by simpa using hm
          have HL:=Za (HSU.out h3 hp hmn)
          clear hmn
          generalize hx:ZP d n=x at *
          generalize hy:ZP d (n+1)=y at *
          have HY:=Za hy
          clear hx hy
          go_wp2_with fail
          go_roundw
          case rel=>exact⟨n+1,by omega,by rw [HY.out];first | rfl | exact congrArg _ HYW.out,by first | trivial | rfl,by rw [HY.out];exact HL.out,by first | trivial | rfl⟩
          case measure=>simp [intOf];omega
      · have HL:=Za (HST.out (by omega))
        generalize ZP d n=x at *
        generalize ZP d (n+1)=y at *
        go_wp2_with fail
        go_ret
        exact⟨ZK (by rw [HEV.out,HL.out]),rfl⟩
    · have HL:=Za (HS3.out (by omega))
      have h3i:¬(n:Int)<3:=by omega
      generalize ZP d n=x at *
      generalize ZP d (n+1)=y at *
      go_wp2_with fail
      go_ret
      exact⟨ZK (by rw [HEV.out,HL.out]),rfl⟩
end Go.Proofs.YtaaagmgglolibaaGreat
