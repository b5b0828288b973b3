import Derived.Test.YtilkaeclgmcolaaGreatMathZz
import Derived.Test.YtilkaeclgmcolaaGreatLvSpecZz
import Derived.Test.YtilkaeclgmcolaaGreatZSpecZz
import Derived.Test.YtilkaeclgmcolaaGreatNearZz
import Derived.BigQuiet
set_option maxRecDepth 100000
set_option maxHeartbeats 4000000
namespace Go.Proofs.YtilkaeclgmcolaaGreat
open Go Go.RowKit
theorem Zel{w:World}{ao:Option Addr}{ms:List Mk}(h:Zo w ao ms)(h0:0<ms.length):∃b off,ao=some ⟨b,off,none⟩/\b<w.heap.size/\ZaV w b off ms:=by
 rcases h with h | h
 · subst h;simp at h0
 · exact h
structure Zac(w:World)(B:Nat)(am:Option Addr)(cm:Nat)(ms:List Mk)(al:Option Addr)(cl:Nat)(ls:List (List Int)):Prop where
 lt:B<w.heap.size
 c0:w.cell? ⟨B,0,none⟩=some (.slice am ms.length cm)
 c1:w.cell? ⟨B,1,none⟩=some (.slice al ls.length cl)
 mv:Zo w am ms
 cv:ZS w al ls
theorem Zac.below{w w':World}{B cm cl:Nat}{am al:Option Addr}{ms:List Mk}{ls:List (List Int)}(h:Zac w B am cm ms al cl ls)(L:Below w.heap.size w w'):Zac w' B am cm ms al cl ls:=
 ⟨Nat.lt_of_lt_of_le h.lt L.size,(L.cell (p:=⟨B,0,none⟩) h.lt).trans h.c0,(L.cell (p:=⟨B,1,none⟩) h.lt).trans h.c1,h.mv.next L,h.cv.next L⟩
theorem Zac.drewN{w:World}{B cm cl:Nat}{am al:Option Addr}{ms:List Mk}{ls:List (List Int)}(h:Zac w B am cm ms al cl ls)(n:Nat):Zac (w.drewN n) B am cm ms al cl ls:=
 h.below (below_drewN (Below.refl _ _) n)
theorem Zac.box{w:World}{cm cl:Nat}{am al:Option Addr}{ms:List Mk}{ls:List (List Int)}{t:TypeId}(hm:Zo w am ms)(hl:ZS w al ls):Zac (w.alloc (.cells #[.slice am ms.length cm,.slice al ls.length cl] t)) w.heap.size am cm ms al cl ls:=by
 have L:Below w.heap.size w (w.alloc (.cells #[.slice am ms.length cm,.slice al ls.length cl] t)):=(Below.refl _ _).alloc (Nat.le_refl _) _
 exact⟨by simp,by simp,by simp,hm.next L,hl.next L⟩
theorem Zo9(am al:Option Addr)(cm cl:Nat)(ms:List Mk)(ls:List (List Int))(w:World)(hm:Zo w am ms)(hl:ZS w al ls)(hsm:ZL ms)(hcs:Z7 ls):
 Calls Tryz.prog 159 #[.agg #[.slice am ms.length cm,.slice al ls.length cl]] w fun e w'=>e=.returned (.bool (Zax ms ls))/\Below w.heap.size w w':=by
 obtain⟨W,hW⟩:∃W,w.alloc (.cells #[.slice am ms.length cm,.slice al ls.length cl] 158)=W:=⟨_,rfl⟩
 have hB:=balZ hW
 have K:Zac W w.heap.size am cm ms al cl ls:=by rw [<-hW];exact Zac.box hm hl
 have I:=Za hB
 have Q:=Za K
 have k0:=K.c0
 have N:=Za (Zg2 am cm ms W K.mv hsm)
 have aJ:=Za hsm
 have H:=Za hcs
 have ag:=hsm.1
 have aO:=hcs.1
 clear hm hl hB K hsm hcs
 rcases hmb:Zt ms with _ | _
 · have R:Hid (Zax ms ls=false):=by show _=_;simp [Zax,hmb]
   rw [hmb] at N
   rw [R.out]
   go_enter Tryz.func159,Tryz.ntmps159
   go_wp2_with fail
   refine N.out.mono ?_
   rintro e w1 ⟨rfl,Y,rfl⟩
   go_wp2_with fail
   go_ret
   exact⟨rfl,below_drewN I.out _⟩
 rw [hmb] at N
 by_cases hlen:ls.length=ms.length
 · have af:((ls.length:Int) !=(ms.length:Int))=false:=by simp [hlen]
   have O:=Za hlen
   clear hlen
   go_enter Tryz.func159,Tryz.ntmps159
   go_wp2_with fail
   refine N.out.mono ?_
   rintro e w1 ⟨rfl,Y,u⟩
   have k0:w1.cell? ⟨w.heap.size,0,none⟩=some (.slice am ms.length cm):=by rw [u];exact (Q.out.drewN Y).c0
   have k1:w1.cell? ⟨w.heap.size,1,none⟩=some (.slice al ls.length cl):=by rw [u];exact (Q.out.drewN Y).c1
   have ab:=Za u
   clear u
   go_wp2_with fail
   go_loopw [3] (fun i wr=>∃k:Nat,k<=ls.length/\i=.int .i64 k/\(∀j,j<k->ZbX ms ls j=true)/\∃n,wr=W.drewN n) (fun i _=>ls.length-(intOf i).toNat)
   case atStart=>exact⟨0,Nat.zero_le _,rfl,fun j hj=>by omega,Y,ab.out⟩
   case round=>
    obtain⟨i,hi,rfl,g,n,rfl⟩:=hrel
    have HA:=Za g
    have o:=Q.out
    have q0:=o.c0
    have q1:=o.c1
    clear g k0 k1 N
    by_cases hlt:i<ls.length
    · obtain⟨bl,ol,rfl,av,p⟩:=o.cv.seg (by omega)
      obtain⟨bm,om,rfl,aA,q⟩:=Zel o.mv (by have:=O.out;omega)
      obtain⟨a,c,hc,hv⟩:=p i hlt
      have T:=Za (Zpa a c (cn ls i) (W.drewN n) (Zy.drewN hv n) (H.out.2 i))
      have U:=Za p
      have R:=Za hv
      have D:=(q i (by have:=O.out;omega)).1
      rw [Zpb] at D
      have aV:=Za o.mv
      have aR:=H.out.2 i
      clear p hv q o
      rcases hr:Za0 (cn ls i) with _ | _
      · have y:=Za (Zd1 hlt (Zi8 (ms:=ms) hr))
        rw [hr] at T
        go_wp2_with fail
        refine T.out.mono ?_
        rintro e Z ⟨rfl,n2,rfl⟩
        go_wp2_with fail
        go_ret
        exact⟨Zd y.out.symm,below_drewN I.out _⟩
      · rw [hr] at T
        have ae:=Za hr
        go_wp2_with fail
        refine T.out.mono ?_
        rintro e Z ⟨rfl,n2,S⟩
        have a9:Hid (∃m,Z=W.drewN m):=by show ∃m,Z=W.drewN m;rw [S,World.drewN_drewN];exact⟨_,rfl⟩
        clear S hr T
        go_wp2_with fail
        go_loopw [4] (fun i' wr=>∃k:Nat,k<=(cn ls i).length/\i'=.int .i64 k/\(∀j,j<k->Zch ms ls i (nth (cn ls i) j)=true)/\∃n,wr=W.drewN n) (fun i' _=>(cn ls i).length-(intOf i').toNat)
        case atStart=>exact⟨0,Nat.zero_le _,rfl,fun j hj=>by omega,a9.out⟩
        case round=>
         obtain⟨k,hk,rfl,g,L⟩:=hrel
         have V:=Za g
         have M:=Za L
         have K:=Q.out
         have o:Zac wr w.heap.size (some ⟨bm,om,none⟩) cm ms (some ⟨bl,ol,none⟩) cl ls:=by obtain⟨n,rfl⟩:=L;exact K.drewN n
         have q0:=o.c0
         have q1:=o.c1
         have aM:wr.cell? ⟨bl,ol+i,none⟩=some (.slice a (cn ls i).length c):=by obtain⟨n,rfl⟩:=L;exact hc
         have aC:wr.cell? ⟨bm,om+i*2,none⟩=some (.int .i64 (mid ms i)):=by obtain⟨n,rfl⟩:=L;exact D
         have az:=n0Z i
         have aD:(i:Int)<(ls.length:Int):=by omega
         have aI:(i:Int)<(ms.length:Int):=by have:=O.out;omega
         clear g K
         by_cases hkl:k<(cn ls i).length
         · obtain⟨ba,oa,rfl,aH,X⟩:∃b off,a=some ⟨b,off,none⟩/\b<W.heap.size/\Seg W b off (cn ls i):=by
            rcases R.out with h | h
            · rw [h] at hkl;simp at hkl
            · exact h
           have hx:wr.cell? ⟨ba,oa+k,none⟩=some (.int .i64 (nth (cn ls i) k)):=by obtain⟨n,rfl⟩:=L;exact X k hkl
           have aG:=n0Z k
           have aK:(k:Int)<((cn ls i).length:Int):=by omega
           obtain⟨x,J⟩:∃x,nth (cn ls i) k=x:=⟨_,rfl⟩
           rw [J] at hx
           have A:=Za J
           have HF:Hid (∀n,Calls Tryz.prog 116 #[.slice (some ⟨bm,om,none⟩) ms.length cm,.int .i64 x] (wr.drewN n) fun e v=>e=.returned (.int .i64 (ZC ms x))/\∃m,v=wr.drewN m):=fun n=>
            (Zgo (some ⟨bm,om,none⟩) cm ms x (wr.drewN n) (o.drewN n).mv ag).mono fun e v ⟨he,hm⟩=>⟨he,n,hm⟩
           have l:=Za (Zb9 ms ls i x)
           have r:=Za (fun (h:0<=ZC ms x)=>Zab h)
           have s:Hid (ZD ms x=(ZC ms x).toNat):=rfl
           have HJ:=Za o
           obtain⟨z,hz⟩:∃z,ZC ms x=z:=⟨_,rfl⟩
           rw [hz] at HF l r s
           clear X J hz L o
           by_cases h0:z<0
           · have y:Hid (Zax ms ls=false):=Zd1 hlt (ZdJ hkl (by rw [A.out];rcases e:Zch ms ls i x with _ | _;rfl;have:=(l.out.1 e).1;omega))
             have f0:decide (z<0)=true:=by simp;omega
             clear h0 l r s
             go_wp2_with fail
             refine wp_region_quiet_lit (by kernel_rfl) (by kernel_rfl) ?_
             try simp only [List.append_eq,List.cons_append,List.nil_append]
             repeat (go_big_quiet_step ((go_at_call 116;exact HF.out _)))
             refine wpQuiet_nil ?_
             intro _ f
             obtain⟨F,d⟩:=f
             subst d
             go_wp2_with fail
             refine wp_region_quiet_lit (by kernel_rfl) (by kernel_rfl) ?_
             try simp only [List.append_eq,List.cons_append,List.nil_append]
             repeat (go_big_quiet_step (fail))
             refine wpQuiet_nil ?_
             intro _ f
             obtain⟨F,d⟩:=f
             subst d
             go_wp2_with fail
             go_ret
             exact⟨Zd y.out.symm,below_drewN (below_drewN (by obtain⟨n,t⟩:=M.out;rw [t];exact below_drewN I.out n) _) _⟩
           · have f0:decide (z<0)=false:=by simp;omega
             by_cases hzi:z=(i:Int)
             · have y:Hid (Zax ms ls=false):=Zd1 hlt (ZdJ hkl (by rw [A.out];rcases e:Zch ms ls i x with _ | _;rfl;exact absurd hzi (l.out.1 e).2.1))
               have aF:(z ==(i:Int))=true:=by rw [hzi];simp
               clear l r s hzi h0
               go_wp2_with fail
               refine wp_region_quiet_lit (by kernel_rfl) (by kernel_rfl) ?_
               try simp only [List.append_eq,List.cons_append,List.nil_append]
               repeat (go_big_quiet_step ((go_at_call 116;exact HF.out _)))
               refine wpQuiet_nil ?_
               intro _ f
               obtain⟨F,d⟩:=f
               subst d
               go_wp2_with fail
               refine wp_region_quiet_lit (by kernel_rfl) (by kernel_rfl) ?_
               try simp only [List.append_eq,List.cons_append,List.nil_append]
               repeat (go_big_quiet_step (fail))
               refine wpQuiet_nil ?_
               intro _ f
               obtain⟨F,d⟩:=f
               subst d
               go_wp2_with fail
               go_ret
               exact⟨Zd y.out.symm,below_drewN (below_drewN (by obtain⟨n,t⟩:=M.out;rw [t];exact below_drewN I.out n) _) _⟩
             · obtain⟨j,rfl⟩:∃j:Nat,z=(j:Int):=⟨z.toNat,by omega⟩
               have ah:=(r.out (by omega)).1
               have G:ZD ms x=j:=by have:=s.out;omega
               rw [G] at ah
               have B:Hid (Zch ms ls i x=ZaI (cn ls j) (mid ms i)):=by
                show _=_
                have h1:=l.out
                rw [G] at h1
                rcases e:ZaI (cn ls j) (mid ms i) with _ | _
                · rcases e':Zch ms ls i x with _ | _
                  · rfl
                  · have:=(h1.1 e').2.2;rw [e] at this;cases this
                · exact h1.2 ⟨by omega,hzi,e⟩
               obtain⟨aj,cj,C,E⟩:=U.out j (by have:=O.out;omega)
               have aS:wr.cell? ⟨bl,ol+j,none⟩=some (.slice aj (cn ls j).length cj):=by obtain⟨n,t⟩:=M.out;rw [t];exact C
               have P:Zy wr aj (cn ls j):=by obtain⟨n,t⟩:=M.out;rw [t];exact Zy.drewN E n
               have HH:Hid (∀n,Calls Tryz.prog 185 #[.slice aj (cn ls j).length cj,.int .i64 (mid ms i)] (wr.drewN n) fun e v=>e=.returned (.bool (ZaI (cn ls j) (mid ms i)))/\v=wr.drewN n):=fun n=>
                sHas aj cj (cn ls j) (mid ms i) (wr.drewN n) (Zy.drewN P n) (by have:=H.out.2 j;omega)
               have aW:((j:Int) ==(i:Int))=false:=by simp;omega
               have aN:=n0Z j
               have ay:(j:Int)<(ls.length:Int):=by have:=O.out;omega
               clear l r s G P E C hzi h0
               rcases hb:ZaI (cn ls j) (mid ms i) with _ | _
               · have y:Hid (Zax ms ls=false):=Zd1 hlt (ZdJ hkl (by rw [A.out,B.out];exact hb))
                 rw [hb] at HH
                 clear hb
                 go_wp2_with fail
                 refine wp_region_quiet_lit (by kernel_rfl) (by kernel_rfl) ?_
                 try simp only [List.append_eq,List.cons_append,List.nil_append]
                 repeat (go_big_quiet_step ((go_at_call 116;exact HF.out _)))
                 refine wpQuiet_nil ?_
                 intro _ f
                 obtain⟨F,d⟩:=f
                 subst d
                 go_wp2_with fail
                 refine wp_region_quiet_lit (by kernel_rfl) (by kernel_rfl) ?_
                 try simp only [List.append_eq,List.cons_append,List.nil_append]
                 repeat (go_big_quiet_step ((go_at_call 185;refine (HH.out _).mono ?_;rintro e Z ⟨rfl,rfl⟩;exact⟨rfl,_,rfl⟩)))
                 refine wpQuiet_nil ?_
                 intro _ f
                 obtain⟨F,d⟩:=f
                 subst d
                 go_wp2_with fail
                 go_ret
                 exact⟨Zd y.out.symm,below_drewN (below_drewN (by obtain⟨n,t⟩:=M.out;rw [t];exact below_drewN I.out n) _) _⟩
               · have y:Hid (Zch ms ls i (nth (cn ls i) k)=true):=by show _=_;rw [A.out,B.out];exact hb
                 rw [hb] at HH
                 clear hb
                 go_wp2_with fail
                 refine wp_region_quiet_lit (by kernel_rfl) (by kernel_rfl) ?_
                 try simp only [List.append_eq,List.cons_append,List.nil_append]
                 repeat (go_big_quiet_step ((go_at_call 116;exact HF.out _)))
                 refine wpQuiet_nil ?_
                 intro _ f
                 obtain⟨F,d⟩:=f
                 subst d
                 go_wp2_with fail
                 refine wp_region_quiet_lit (by kernel_rfl) (by kernel_rfl) ?_
                 try simp only [List.append_eq,List.cons_append,List.nil_append]
                 repeat (go_big_quiet_step ((go_at_call 185;refine (HH.out _).mono ?_;rintro e Z ⟨rfl,rfl⟩;exact⟨rfl,_,rfl⟩)))
                 refine wpQuiet_nil ?_
                 intro _ f
                 obtain⟨F,d⟩:=f
                 subst d
                 go_wp2_with fail
                 go_roundw
                 case rel=>exact⟨k+1,by omega,by go_num,fun j' aP=>by
                  rcases Nat.lt_or_ge j' k with h | h
                  · exact V.out j' h
                  · obtain rfl:j'=k:=by omega
                    exact y.out,by obtain⟨n,t⟩:=M.out;rw [t];simp only [World.drewN_drewN];exact⟨_,rfl⟩⟩
                 case measure=>simp [intOf];omega
         · obtain⟨m,rfl⟩:=L
           go_wp2_with fail
           go_roundw
           case rel=>exact⟨i+1,by omega,by go_num,fun j hj=>by
            rcases Nat.lt_or_ge j i with h | h
            · exact HA.out j h
            · obtain rfl:j=i:=by omega
              exact (Zca _ _ _).2 ⟨ae.out,fun k' aX=>V.out k' (by omega)⟩,_,rfl⟩
           case measure=>simp [intOf];omega
    · go_wp2_with fail
      go_ret
      obtain rfl:i=ls.length:=by omega
      exact⟨Zd (Eq.symm ((ZbM ms ls).2 ⟨hmb,O.out,HA.out⟩)),below_drewN I.out _⟩
 · have R:Hid (Zax ms ls=false):=by show _=_;simp [Zax,hlen]
   have af:((ls.length:Int) !=(ms.length:Int))=true:=by simp;omega
   rw [R.out]
   have k1:=Q.out.c1
   go_enter Tryz.func159,Tryz.ntmps159
   go_wp2_with fail
   refine N.out.mono ?_
   rintro e w1 ⟨rfl,Y,rfl⟩
   go_wp2_with fail
   go_ret
   exact⟨rfl,below_drewN I.out _⟩
end Go.Proofs.YtilkaeclgmcolaaGreat
