import Derived.Test.YtaaagmgglolibaaGreatMathZz
import Derived.Test.YtaaagmgglolibaaGreatLvSpecZz
import Derived.Test.YtaaagmgglolibaaGreatZSpecZz
import Derived.Test.YtaaagmgglolibaaGreatNearZz
import Derived.BigQuiet
set_option maxRecDepth 100000
set_option maxHeartbeats 4000000
namespace Go.Proofs.YtaaagmgglolibaaGreat
open Go Go.RowKit
theorem ZbX{w:World}{ao:Option Addr}{ms:List Mk}(h:Zq w ao ms)(h0:0<ms.length):∃b off,ao=some ⟨b,off,none⟩/\b<w.heap.size/\Zbi w b off ms:=by
 rcases h with h | h
 · subst h;simp at h0
 · exact h
structure Zac(w:World)(B:Nat)(am:Option Addr)(cm:Nat)(ms:List Mk)(al:Option Addr)(cl:Nat)(ls:List (List Int)):Prop where
 lt:B<w.heap.size
 c0:w.cell? ⟨B,0,none⟩=some (.slice am ms.length cm)
 c1:w.cell? ⟨B,1,none⟩=some (.slice al ls.length cl)
 mv:Zq w am ms
 cv:Z8 w al ls
theorem Zac.below{w w':World}{B cm cl:Nat}{am al:Option Addr}{ms:List Mk}{ls:List (List Int)}(h:Zac w B am cm ms al cl ls)(L:Below w.heap.size w w'):Zac w' B am cm ms al cl ls:=
 ⟨Nat.lt_of_lt_of_le h.lt L.size,(L.cell (p:=⟨B,0,none⟩) h.lt).trans h.c0,(L.cell (p:=⟨B,1,none⟩) h.lt).trans h.c1,h.mv.next L,h.cv.next L⟩
theorem Zac.drewN{w:World}{B cm cl:Nat}{am al:Option Addr}{ms:List Mk}{ls:List (List Int)}(h:Zac w B am cm ms al cl ls)(n:Nat):Zac (w.drewN n) B am cm ms al cl ls:=
 h.below (below_drewN (Below.refl _ _) n)
theorem Zac.box{w:World}{cm cl:Nat}{am al:Option Addr}{ms:List Mk}{ls:List (List Int)}{t:TypeId}(hm:Zq w am ms)(hl:Z8 w al ls):Zac (w.alloc (.cells #[.slice am ms.length cm,.slice al ls.length cl] t)) w.heap.size am cm ms al cl ls:=by
 have L:Below w.heap.size w (w.alloc (.cells #[.slice am ms.length cm,.slice al ls.length cl] t)):=(Below.refl _ _).alloc (Nat.le_refl _) _
 exact⟨by simp,by simp,by simp,hm.next L,hl.next L⟩
theorem Zn3(am al:Option Addr)(cm cl:Nat)(ms:List Mk)(ls:List (List Int))(w:World)(hm:Zq w am ms)(hl:Z8 w al ls)(hsm:ZX ms)(hcs:ZaZ ls):
 Calls Tryz.prog 115 #[.agg #[.slice am ms.length cm,.slice al ls.length cl]] w fun e w'=>e=.returned (.bool (Zab ms ls))/\Below w.heap.size w w':=by
 obtain⟨W,hW⟩:∃W,w.alloc (.cells #[.slice am ms.length cm,.slice al ls.length cl] 47)=W:=⟨_,rfl⟩
 have hB:Below w.heap.size w W:=by rw [<-hW];exact (Below.refl _ _).alloc (Nat.le_refl _) _
 have hI:Zac W w.heap.size am cm ms al cl ls:=by rw [<-hW];exact Zac.box hm hl
 have HB:=Za hB
 have HI:=Za hI
 have k0:=hI.c0
 have HC:=Za (Zgv am cm ms W hI.mv hsm)
 have HS1:=Za hsm
 have HS2:=Za hcs
 have hml:=hsm.1
 have hll:=hcs.1
 clear hm hl hB hI hsm hcs
 rcases hmb:Zn ms with _ | _
 · have HV:Hid (Zab ms ls=false):=by show _=_;simp [Zab,hmb]
   rw [hmb] at HC
   rw [HV.out]
   go_enter Tryz.func115,Tryz.ntmps115
   go_wp2_with fail
   refine HC.out.mono ?_
   rintro e w1 ⟨rfl,n1,rfl⟩
   go_wp2_with fail
   go_ret
   exact⟨rfl,below_drewN HB.out _⟩
 rw [hmb] at HC
 by_cases hlen:ls.length=ms.length
 · have hlb:((ls.length:Int) !=(ms.length:Int))=false:=by simp [hlen]
   have HL:=Za hlen
   clear hlen
   go_enter Tryz.func115,Tryz.ntmps115
   go_wp2_with fail
   refine HC.out.mono ?_
   rintro e w1 ⟨rfl,n1,hw1⟩
   have k0:w1.cell? ⟨w.heap.size,0,none⟩=some (.slice am ms.length cm):=by rw [hw1];exact (HI.out.drewN n1).c0
   have k1:w1.cell? ⟨w.heap.size,1,none⟩=some (.slice al ls.length cl):=by rw [hw1];exact (HI.out.drewN n1).c1
   have HW1:=Za hw1
   clear hw1
   go_wp2_with fail
   go_loopw [3] (fun i wr=>∃k:Nat,k<=ls.length/\i=.int .i64 k/\(∀j,j<k->ZbT ms ls j=true)/\∃n,wr=W.drewN n) (fun i _=>ls.length-(intOf i).toNat)
   case atStart=>exact⟨0,Nat.zero_le _,rfl,fun j hj=>by omega,n1,HW1.out⟩
   case round=>
    obtain⟨i,hi,rfl,hall,n,rfl⟩:=hrel
    have HA:=Za hall
    have hJ:=HI.out
    have q0:=hJ.c0
    have q1:=hJ.c1
    clear hall k0 k1 HC
    by_cases hlt:i<ls.length
    · obtain⟨bl,ol,rfl,hbl,hseg⟩:=hJ.cv.seg (by omega)
      obtain⟨bm,om,rfl,hbm,hmseg⟩:=ZbX hJ.mv (by have:=HL.out;omega)
      obtain⟨a,c,hc,hv⟩:=hseg i hlt
      have HR:=Za (Zn4 a c (cn ls i) (W.drewN n) (Zs.drewN hv n) (HS2.out.2 i))
      have HSEG:=Za hseg
      have HV:=Za hv
      have hmid:=(hmseg i (by have:=HL.out;omega)).1
      rw [Zlg] at hmid
      have HMV:=Za hJ.mv
      have hcl:=HS2.out.2 i
      clear hseg hv hmseg hJ
      rcases hr:Za7 (cn ls i) with _ | _
      · have HX:=Za (ZdL hlt (Ziq (ms:=ms) hr))
        rw [hr] at HR
        go_wp2_with fail
        refine HR.out.mono ?_
        rintro e w2 ⟨rfl,n2,rfl⟩
        go_wp2_with fail
        go_ret
        exact⟨Zg HX.out.symm,below_drewN HB.out _⟩
      · rw [hr] at HR
        have HRR:=Za hr
        go_wp2_with fail
        refine HR.out.mono ?_
        rintro e w2 ⟨rfl,n2,hw2⟩
        have HW2:Hid (∃m,w2=W.drewN m):=by show ∃m,w2=W.drewN m;rw [hw2,World.drewN_drewN];exact⟨_,rfl⟩
        clear hw2 hr HR
        go_wp2_with fail
        go_loopw [4] (fun i' wr=>∃k:Nat,k<=(cn ls i).length/\i'=.int .i64 k/\(∀j,j<k->Zb5 ms ls i (nth (cn ls i) j)=true)/\∃n,wr=W.drewN n) (fun i' _=>(cn ls i).length-(intOf i').toNat)
        case atStart=>exact⟨0,Nat.zero_le _,rfl,fun j hj=>by omega,HW2.out⟩
        case round=>
         obtain⟨k,hk,rfl,hall,hw⟩:=hrel
         have HAK:=Za hall
         have HW:=Za hw
         have hI:=HI.out
         have hJ:Zac wr w.heap.size (some ⟨bm,om,none⟩) cm ms (some ⟨bl,ol,none⟩) cl ls:=by obtain⟨n,rfl⟩:=hw;exact hI.drewN n
         have q0:=hJ.c0
         have q1:=hJ.c1
         have hcw:wr.cell? ⟨bl,ol+i,none⟩=some (.slice a (cn ls i).length c):=by obtain⟨n,rfl⟩:=hw;exact hc
         have hmw:wr.cell? ⟨bm,om+i*2,none⟩=some (.int .i64 (mid ms i)):=by obtain⟨n,rfl⟩:=hw;exact hmid
         have hi0:(0:Int)<=(i:Int):=Int.natCast_nonneg _
         have hi1:(i:Int)<(ls.length:Int):=by omega
         have hi2:(i:Int)<(ms.length:Int):=by have:=HL.out;omega
         clear hall hI
         by_cases hkl:k<(cn ls i).length
         · obtain⟨ba,oa,rfl,hba,hsa⟩:∃b off,a=some ⟨b,off,none⟩/\b<W.heap.size/\Seg W b off (cn ls i):=by
            rcases HV.out with h | h
            · rw [h] at hkl;simp at hkl
            · exact h
           have hx:wr.cell? ⟨ba,oa+k,none⟩=some (.int .i64 (nth (cn ls i) k)):=by obtain⟨n,rfl⟩:=hw;exact hsa k hkl
           have hk0:(0:Int)<=(k:Int):=Int.natCast_nonneg _
           have hk1:(k:Int)<((cn ls i).length:Int):=by omega
           obtain⟨x,hxx⟩:∃x,nth (cn ls i) k=x:=⟨_,rfl⟩
           rw [hxx] at hx
           have HXX:=Za hxx
           have HF:Hid (∀n,Calls Tryz.prog 116 #[.slice (some ⟨bm,om,none⟩) ms.length cm,.int .i64 x] (wr.drewN n) fun e w''=>e=.returned (.int .i64 (Zv ms x))/\∃m,w''=wr.drewN m):=fun n=>
            (Ze2 (some ⟨bm,om,none⟩) cm ms x (wr.drewN n) (hJ.drewN n).mv hml).mono fun e w'' ⟨he,hm⟩=>⟨he,n,hm⟩
           have HLB:=Za (ZbZ ms ls i x)
           have HZL:=Za (fun (h:0<=Zv ms x)=>ZQ h)
           have HZI:Hid (Zy ms x=(Zv ms x).toNat):=rfl
           have HJ:=Za hJ
           obtain⟨z,hz⟩:∃z,Zv ms x=z:=⟨_,rfl⟩
           rw [hz] at HF HLB HZL HZI
           clear hsa hxx hz hw hJ
           by_cases h0:z<0
           · have HX:Hid (Zab ms ls=false):=ZdL hlt (Zdt hkl (by rw [HXX.out];rcases e:Zb5 ms ls i x with _ | _;rfl;have:=(HLB.out.1 e).1;omega))
             have f0:decide (z<0)=true:=by simp;omega
             clear h0 HLB HZL HZI
             go_wp2_with fail
             refine wp_region_quiet_lit (by kernel_rfl) (by kernel_rfl) ?_
             try simp only [List.append_eq,List.cons_append,List.nil_append]
             repeat (go_big_quiet_step ((go_at_call 116;exact HF.out _)))
             refine wpQuiet_nil ?_
             intro _ hw'
             obtain⟨nq,hw''⟩:=hw'
             subst hw''
             go_wp2_with fail
             refine wp_region_quiet_lit (by kernel_rfl) (by kernel_rfl) ?_
             try simp only [List.append_eq,List.cons_append,List.nil_append]
             repeat (go_big_quiet_step (fail))
             refine wpQuiet_nil ?_
             intro _ hw'
             obtain⟨nq,hw''⟩:=hw'
             subst hw''
             go_wp2_with fail
             go_ret
             exact⟨Zg HX.out.symm,below_drewN (below_drewN (by obtain⟨n,hn⟩:=HW.out;rw [hn];exact below_drewN HB.out n) _) _⟩
           · have f0:decide (z<0)=false:=by simp;omega
             by_cases hzi:z=(i:Int)
             · have HX:Hid (Zab ms ls=false):=ZdL hlt (Zdt hkl (by rw [HXX.out];rcases e:Zb5 ms ls i x with _ | _;rfl;exact absurd hzi (HLB.out.1 e).2.1))
               have heq:(z ==(i:Int))=true:=by rw [hzi];simp
               clear HLB HZL HZI hzi h0
               go_wp2_with fail
               refine wp_region_quiet_lit (by kernel_rfl) (by kernel_rfl) ?_
               try simp only [List.append_eq,List.cons_append,List.nil_append]
               repeat (go_big_quiet_step ((go_at_call 116;exact HF.out _)))
               refine wpQuiet_nil ?_
               intro _ hw'
               obtain⟨nq,hw''⟩:=hw'
               subst hw''
               go_wp2_with fail
               refine wp_region_quiet_lit (by kernel_rfl) (by kernel_rfl) ?_
               try simp only [List.append_eq,List.cons_append,List.nil_append]
               repeat (go_big_quiet_step (fail))
               refine wpQuiet_nil ?_
               intro _ hw'
               obtain⟨nq,hw''⟩:=hw'
               subst hw''
               go_wp2_with fail
               go_ret
               exact⟨Zg HX.out.symm,below_drewN (below_drewN (by obtain⟨n,hn⟩:=HW.out;rw [hn];exact below_drewN HB.out n) _) _⟩
             · obtain⟨j,rfl⟩:∃j:Nat,z=(j:Int):=⟨z.toNat,by omega⟩
               have hzj:=(HZL.out (by omega)).1
               have hji:Zy ms x=j:=by have:=HZI.out;omega
               rw [hji] at hzj
               have HLB':Hid (Zb5 ms ls i x=ZaK (cn ls j) (mid ms i)):=by
                show _=_
                have h1:=HLB.out
                rw [hji] at h1
                rcases e:ZaK (cn ls j) (mid ms i) with _ | _
                · rcases e':Zb5 ms ls i x with _ | _
                  · rfl
                  · have:=(h1.1 e').2.2;rw [e] at this;cases this
                · exact h1.2 ⟨by omega,hzi,e⟩
               obtain⟨aj,cj,hcj0,hvj0⟩:=HSEG.out j (by have:=HL.out;omega)
               have hcj:wr.cell? ⟨bl,ol+j,none⟩=some (.slice aj (cn ls j).length cj):=by obtain⟨n,hn⟩:=HW.out;rw [hn];exact hcj0
               have hvj:Zs wr aj (cn ls j):=by obtain⟨n,hn⟩:=HW.out;rw [hn];exact Zs.drewN hvj0 n
               have HH:Hid (∀n,Calls Tryz.prog 203 #[.slice aj (cn ls j).length cj,.int .i64 (mid ms i)] (wr.drewN n) fun e w''=>e=.returned (.bool (ZaK (cn ls j) (mid ms i)))/\w''=wr.drewN n):=fun n=>
                sHas aj cj (cn ls j) (mid ms i) (wr.drewN n) (Zs.drewN hvj n) (by have:=HS2.out.2 j;omega)
               have hne:((j:Int) ==(i:Int))=false:=by simp;omega
               have hj0:(0:Int)<=(j:Int):=Int.natCast_nonneg _
               have hj1:(j:Int)<(ls.length:Int):=by have:=HL.out;omega
               clear HLB HZL HZI hji hvj hvj0 hcj0 hzi h0
               rcases hb:ZaK (cn ls j) (mid ms i) with _ | _
               · have HX:Hid (Zab ms ls=false):=ZdL hlt (Zdt hkl (by rw [HXX.out,HLB'.out];exact hb))
                 rw [hb] at HH
                 clear hb
                 go_wp2_with fail
                 refine wp_region_quiet_lit (by kernel_rfl) (by kernel_rfl) ?_
                 try simp only [List.append_eq,List.cons_append,List.nil_append]
                 repeat (go_big_quiet_step ((go_at_call 116;exact HF.out _)))
                 refine wpQuiet_nil ?_
                 intro _ hw'
                 obtain⟨nq,hw''⟩:=hw'
                 subst hw''
                 go_wp2_with fail
                 refine wp_region_quiet_lit (by kernel_rfl) (by kernel_rfl) ?_
                 try simp only [List.append_eq,List.cons_append,List.nil_append]
                 repeat (go_big_quiet_step ((go_at_call 203;refine (HH.out _).mono ?_;rintro e w2 ⟨rfl,rfl⟩;exact⟨rfl,_,rfl⟩)))
                 refine wpQuiet_nil ?_
                 intro _ hw'
                 obtain⟨nq,hw''⟩:=hw'
                 subst hw''
                 go_wp2_with fail
                 go_ret
                 exact⟨Zg HX.out.symm,below_drewN (below_drewN (by obtain⟨n,hn⟩:=HW.out;rw [hn];exact below_drewN HB.out n) _) _⟩
               · have HX:Hid (Zb5 ms ls i (nth (cn ls i) k)=true):=by show _=_;rw [HXX.out,HLB'.out];exact hb
                 rw [hb] at HH
                 clear hb
                 go_wp2_with fail
                 refine wp_region_quiet_lit (by kernel_rfl) (by kernel_rfl) ?_
                 try simp only [List.append_eq,List.cons_append,List.nil_append]
                 repeat (go_big_quiet_step ((go_at_call 116;exact HF.out _)))
                 refine wpQuiet_nil ?_
                 intro _ hw'
                 obtain⟨nq,hw''⟩:=hw'
                 subst hw''
                 go_wp2_with fail
                 refine wp_region_quiet_lit (by kernel_rfl) (by kernel_rfl) ?_
                 try simp only [List.append_eq,List.cons_append,List.nil_append]
                 repeat (go_big_quiet_step ((go_at_call 203;refine (HH.out _).mono ?_;rintro e w2 ⟨rfl,rfl⟩;exact⟨rfl,_,rfl⟩)))
                 refine wpQuiet_nil ?_
                 intro _ hw'
                 obtain⟨nq,hw''⟩:=hw'
                 subst hw''
                 go_wp2_with fail
                 go_roundw
                 case rel=>exact⟨k+1,by omega,by go_num,fun j' hj'=>by
                  rcases Nat.lt_or_ge j' k with h | h
                  · exact HAK.out j' h
                  · obtain rfl:j'=k:=by omega
                    exact HX.out,by obtain⟨n,hn⟩:=HW.out;rw [hn];simp only [World.drewN_drewN];exact⟨_,rfl⟩⟩
                 case measure=>simp [intOf];omega
         · obtain⟨m,rfl⟩:=hw
           go_wp2_with fail
           go_roundw
           case rel=>exact⟨i+1,by omega,by go_num,fun j hj=>by
            rcases Nat.lt_or_ge j i with h | h
            · exact HA.out j h
            · obtain rfl:j=i:=by omega
              exact (Zb0 _ _ _).2 ⟨HRR.out,fun k' hk'=>HAK.out k' (by omega)⟩,_,rfl⟩
           case measure=>simp [intOf];omega
    · go_wp2_with fail
      go_ret
      obtain rfl:i=ls.length:=by omega
      exact⟨Zg (Eq.symm ((ZbJ ms ls).2 ⟨hmb,HL.out,HA.out⟩)),below_drewN HB.out _⟩
 · have HV:Hid (Zab ms ls=false):=by show _=_;simp [Zab,hlen]
   have hlb:((ls.length:Int) !=(ms.length:Int))=true:=by simp;omega
   rw [HV.out]
   have k1:=HI.out.c1
   go_enter Tryz.func115,Tryz.ntmps115
   go_wp2_with fail
   refine HC.out.mono ?_
   rintro e w1 ⟨rfl,n1,rfl⟩
   go_wp2_with fail
   go_ret
   exact⟨rfl,below_drewN HB.out _⟩
end Go.Proofs.YtaaagmgglolibaaGreat
