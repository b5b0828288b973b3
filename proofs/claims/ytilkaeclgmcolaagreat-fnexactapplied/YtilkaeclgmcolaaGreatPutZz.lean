import Derived.Test.YtilkaeclgmcolaaGreatHSpecZz
import Derived.Test.YtilkaeclgmcolaaGreatMovedSZz
import Derived.Test.YtilkaeclgmcolaaGreatMCellsZz
set_option maxRecDepth 100000
set_option maxHeartbeats 2000000
namespace Go.Proofs.YtilkaeclgmcolaaGreat
open Go Go.RowKit
theorem Tryz.info227:(Tryz.prog.info? 227).map (fun i=>(i.zero,i.size,i.bytes))=some (some (.agg #[.int .i64 0,.int .i64 0]),2,16):=by kernel_rfl
def Zbq(w3:World)(q:Nat)(h:Ht)(w':World):Prop:=(w'.cell? ⟨q,0,none⟩=some (.int .i64 h.1)/\w'.cell? ⟨q,1,none⟩=some (.int .i64 h.2))/\Below w3.heap.size w3 w'
theorem Zbq.grown{w3 w' w4:World}{q n:Nat}{h:Ht}(hs:Zbq w3 q h w')(hq:q<w3.heap.size)(hg:w'.grownBy w4 (some n))(hn:w3.heap.size<=n):Zbq w3 q h w4:=by
 have b:=hs.2.size
 have L:Below w3.heap.size w' w4:=(Below.refl _ _).grown hg (by omega) (by intro k a;cases a;exact hn)
 exact⟨⟨(L.cell (p:=⟨q,0,none⟩) hq).trans hs.1.1,(L.cell (p:=⟨q,1,none⟩) hq).trans hs.1.2⟩,hs.2.trans L⟩
theorem Zbq.of{w3 w':World}{q:Nat}{h:Ht}(hq:q<w3.heap.size)(e0:w3.cell? ⟨q,0,none⟩=some (.int .i64 h.1))(e1:w3.cell? ⟨q,1,none⟩=some (.int .i64 h.2))(L:Below w3.heap.size w3 w'):Zbq w3 q h w':=
 ⟨⟨(L.cell (p:=⟨q,0,none⟩) hq).trans e0,(L.cell (p:=⟨q,1,none⟩) hq).trans e1⟩,L⟩
theorem Zfa{w3 wA:World}{E X:Obj}(hg:((w3.alloc E).alloc X).drew.grownBy wA (some w3.heap.size)):wA.heap[w3.heap.size+1]? =some X:=by
 rw [hg.block (w3.heap.size+1) (by simp) (by simp)]
 show ((w3.heap.push E).push X)[w3.heap.size+1]? =_
 rw [Array.getElem?_push];simp
theorem Zfb{w3 wA:World}{E X:Obj}(hg:((w3.alloc X).alloc E).drew.grownBy wA (some (w3.heap.size+1))):wA.heap[w3.heap.size]? =some X:=by
 rw [hg.block w3.heap.size (by simp;omega) (by simp)]
 show ((w3.heap.push X).push E)[w3.heap.size]? =_
 rw [Array.getElem?_push];simp
theorem Zfc{base:Nat}(w3:World)(X:Obj)(hb:base<=w3.heap.size):((w3.alloc X).alloc (.cells #[] 227)).drew.ownsRow base 227 2 (.slice (some ⟨w3.heap.size+1,0,none⟩) 0 0) 0 []:=by
 have:=World.ownsRow_lit (base:=base) (e:=227) (size:=2) (w3.alloc X) #[] 0 (by simp;omega) (Nat.zero_le _) rfl
 rw [show (w3.alloc X).heap.size=w3.heap.size+1 by simp] at this
 exact World.ownsRow.drew this
theorem Zb5{w:World}{n:Nat}{h:Ht}(hb:w.heap[n]? =some (.cells #[.int .i64 h.1,.int .i64 h.2] 227 (0,0))):ZX w 2 (some ⟨n,0,none⟩) 1 (Zn [h]):=
 ⟨rfl,ZfK [h],Or.inr ⟨_,rfl,World.news_of_block (cs:=#[.int .i64 h.1,.int .i64 h.2]) hb⟩⟩
theorem Zf5(hs:List Ht)(h:Ht)(k:Nat)(hk:k<=hs.length)(hall:∀j,j<k->Zag h (Zx hs j)=false)(hend:k=hs.length\/Zag h (Zx hs k)=true):ZbV hs h=hs.take k++([h]++hs.drop k):=by
 induction hs generalizing k with
 | nil=>simp at hk;subst hk;rfl
 | cons x xs ih=>
   cases k with
   | zero=>
     have:Zag h x=true:=by
      rcases hend with h1 | h1
      · simp at h1
      · exact h1
     simp [ZbV,this]
   | succ k=>
     have a:Zag h x=false:=hall 0 (by omega)
     have:=ih k (by simpa using hk) (fun j b=>hall (j+1) (by omega)) (by
      rcases hend with h1 | h1
      · left;simpa using h1
      · right;exact h1)
     simp [ZbV,a,this]
theorem sPut(base g c:Nat)(hs:List Ht)(x:Ht)(w:World)(hr:ZT base w g c hs)(hn:hs.length<=4194304):
 Calls Tryz.prog 221 #[.slice (some ⟨g,0,none⟩) hs.length c,.agg #[.int .i64 x.1,.int .i64 x.2]] w fun e w'=>∃g' c',e=.returned (.slice (some ⟨g',0,none⟩) (ZbV hs x).length c')/\ZT w.heap.size w' g' c' (ZbV hs x)/\Below w.heap.size w w':=by
 obtain⟨O,s,n,o,r⟩:=info_parts Tryz.info227
 have aJ:=hr.cap
 have L0:Below w.heap.size w (w.alloc (.cells #[.int .i64 x.1,.int .i64 x.2] 227)):=(Below.refl _ _).alloc (Nat.le_refl _) _
 have c0:(w.alloc (.cells #[.int .i64 x.1,.int .i64 x.2] 227)).cell? ⟨w.heap.size,0,none⟩=some (.int .i64 x.1):=by go_simp
 have c1:(w.alloc (.cells #[.int .i64 x.1,.int .i64 x.2] 227)).cell? ⟨w.heap.size,1,none⟩=some (.int .i64 x.2):=by go_simp
 have aQ:(w.alloc (.cells #[.int .i64 x.1,.int .i64 x.2] 227)).heap.size=w.heap.size+1:=by simp
 have aE:=hr.lt.2
 have ab:=hr.seg
 go_enter Tryz.func221,Tryz.ntmps221
 go_wp2_with fail
 generalize (w.alloc (.cells #[.int .i64 x.1,.int .i64 x.2] 227))=W0 at *
 have HS:=Za (ab.below aE L0)
 have U:=Za L0
 have HR:=Za hr
 clear ab L0 hr
 go_loopw [5] (fun i wr=>∃k:Nat,k<=hs.length/\i=.int .i64 k/\(∀j,j<k->Zag x (Zx hs j)=false)/\Below W0.heap.size W0 wr) (fun i _=>hs.length-(intOf i).toNat)
 case atStart=>exact⟨0,Nat.zero_le _,rfl,fun j hj=>by omega,Below.refl _ _⟩
 case round=>
  obtain⟨k,hk,rfl,ac,L⟩:=hrel
  have HA:=Za ac
  have hz:=L.size
  have a3:=(L.cell (p:=⟨w.heap.size,0,none⟩) (by simp;omega)).trans c0
  have a4:=(L.cell (p:=⟨w.heap.size,1,none⟩) (by simp;omega)).trans c1
  have al:=Za L
  have aq:=Za (HS.out.below (by omega) L)
  clear ac L
  by_cases hlt:k<hs.length
  · obtain⟨ah,ae⟩:=aq.out k hlt
    rw [Nat.zero_add] at ah ae
    have aN:=n0Z k
    have aC:(k:Int)<(hs.length:Int):=by omega
    have aw:g<wr.heap.size:=by omega
    have ax:w.heap.size<wr.heap.size:=by omega
    have HC:=Za (Zps x (Zx hs k) wr.drew)
    go_wp2_with fail
    go_region_held3 (fun w'=>w'.cell? ⟨w.heap.size,0,none⟩=some (.int .i64 x.1)/\w'.cell? ⟨w.heap.size,1,none⟩=some (.int .i64 x.2)/\w'.cell? ⟨g,k*2,none⟩=some (.int .i64 (Zx hs k).1)/\w'.cell? ⟨g,k*2+1,none⟩=some (.int .i64 (Zx hs k).2))
     (first
       | go_keep
       | (refine⟨(J.cell (p:=⟨w.heap.size,0,none⟩) ax).trans a3,(J.cell (p:=⟨w.heap.size,1,none⟩) ax).trans a4,(J.cell (p:=⟨g,k*2,none⟩) aw).trans ah,(J.cell (p:=⟨g,k*2+1,none⟩) aw).trans ae⟩))
     (first
       | (go_at_call 238;refine HC.out.mono ?_;rintro e K ⟨rfl,J⟩))
    have LF:=Za (al.out.drew.trans (J.mono hz))
    clear J HC
    rcases hf:Zag x (Zx hs k) with _ | _
    · go_wp2_with fail
      go_roundw
      case rel=>exact⟨k+1,by omega,by go_num,fun i hi=>by
       rcases Nat.lt_or_ge i k with hh | hh
       · exact HA.out i hh
       · rw [show i=k by omega];exact hf,LF.out⟩
      case measure=>simp [intOf];omega
    · have a9:=Za (Zf5 hs x k hk HA.out (Or.inr hf))
      replace a3:=(LF.out.cell (p:=⟨w.heap.size,0,none⟩) (by simp;omega)).trans c0
      replace a4:=(LF.out.cell (p:=⟨w.heap.size,1,none⟩) (by simp;omega)).trans c1
      have a5:=LF.out.size
      clear ah ae aq al HA
      have ay:(hs.drop k).length=hs.length-k:=by simp
      have aF:(hs.take k).length=k:=by simp;omega
      have au:=Za (HS.out.below (by omega) LF.out)
      have LA:Below K.heap.size K (K.alloc (.cells #[] 227)):=(Below.refl _ _).alloc (Nat.le_refl _) _
      have ad:Hid (ZX (K.alloc (.cells #[] 227)) 2 (some ⟨g,k*2,none⟩) (hs.length-k) (Zn (hs.drop k))):=by
       have hv:Za7 (K.alloc (.cells #[] 227)) (some ⟨g,k*2,none⟩) (hs.drop k):=Or.inr ⟨g,k*2,rfl,by simp;omega,by
        have:=(au.out.drop k).below (B:=K.heap.size) (by omega) LA
        rwa [Nat.zero_add] at this⟩
       have:=hv.src
       rwa [ay] at this
      go_wp2_with (at_builtin;refine Zw _ rfl (.tmp 22) (.tmp 25) 223 rfl w.heap.size 227 O _ 2 16 Tryz.underlying223 s n o r rfl (by omega) K.heap.size 0 0 [] rfl (World.ownsRow_lit K #[] 0 (by omega) (Nat.zero_le _) rfl) (some ⟨g,k*2,none⟩) (hs.length-k) (c-k) (Zn (hs.drop k)) rfl ad.out (by unfold maxLen;omega) (by omega) (by simp;omega) (K.heap.size+1) (by simp) ?_;intro gr cr a a7 a2 ar az)
      have F:ZT w.heap.size a gr cr (hs.drop k):=ZT.of a7 (by omega) (by simp)
      have J:Below W0.heap.size W0 a:=(LF.out.trans (LA.mono a5)).grown a2 (by simp;omega) (by intro q t;cases t;exact a5)
      have f:w.heap.size<a.heap.size:=by have:=J.size;omega
      have D:=(J.cell (p:=⟨w.heap.size,0,none⟩) (by simp;omega)).trans c0
      have H:=(J.cell (p:=⟨w.heap.size,1,none⟩) (by simp;omega)).trans c1
      have Y:=Za (U.out.trans (J.mono U.out.size))
      have V:g<a.heap.size:=by omega
      have I:Hid (∀w',Below a.heap.size a w'->ZX w' 2 (some ⟨g,0,none⟩) k (Zn (hs.take k))):=fun w' L=>by
       have hv:Za7 w' (some ⟨g,0,none⟩) (hs.take k):=Or.inr ⟨g,0,rfl,by have:=L.size;omega,(((HS.out.below (by omega) J).take k).below V L)⟩
       have:=hv.src
       rwa [aF] at this
      have W:Hid (∀w',Below a.heap.size a w'->ZX w' 2 (some ⟨gr,0,none⟩) (hs.length-k) (Zn (hs.drop k))):=fun w' L=>by
       have:=((F.view).next L).src
       rwa [ay] at this
      have ai:(k:Int)<=(c:Int):=by omega
      have aM:(k:Int)<=(hs.length:Int):=by omega
      have af:(0:Int)<=(k:Int):=by omega
      have aP:k<=c:=by omega
      have av:¬c=0:=by omega
      clear a7 a2 ar az ad LA au a3 a4 LF c0 c1
      go_region_held3 (fun w'=>(w'.cell? ⟨w.heap.size,0,none⟩=some (.int .i64 x.1)/\w'.cell? ⟨w.heap.size,1,none⟩=some (.int .i64 x.2))/\Below a.heap.size a w')
       (first
         | exact⟨⟨D,H⟩,(Below.refl _ _).drew⟩
         | exact Zbq.grown ⟨⟨f0,f1⟩,d⟩ f P A
         | exact Zbq.of f D H d
         | exact Zbq.of f D H (b.alloc (by omega) _)
         | exact Zbq.of f D H b
         | exact Zbq.of f D H ((Below.refl _ _).alloc (Nat.le_refl _) _).drew
         | exact Zbq.of f D H (((Below.refl _ _).alloc (Nat.le_refl _) _).alloc (by simp) _).drew)
       (first
         | (refine Zj _ (by rfl) (.tmp 27) (.tmp 30) 223 (by rfl) w.heap.size 227 O _ 2 16 Tryz.underlying223 s n o r rfl (by omega) a.heap.size 0 0 [] (by rfl) (World.ownsRow.drew (World.ownsRow_lit a #[] 0 (by omega) (Nat.zero_le _) rfl)) (some ⟨g,0,none⟩) k c (Zn (hs.take k)) (by rfl) (I.out _ ((Below.refl _ _).alloc (Nat.le_refl _) _).drew) (by unfold maxLen;omega) (by omega) (by simp;omega) (a.heap.size+1) (by simp) ?_;intro v G m u h R Q;rw [Nat.zero_add];have b:Below a.heap.size a m:=((Below.refl _ _).alloc (Nat.le_refl _) _).drew.grown h (by simp) (by intro q t;cases t;exact Nat.le_refl _);have S:a.heap.size<=v:=(by omega);have l:m.ownsRow w.heap.size 227 2 (.slice (some ⟨v,0,none⟩) k G) k (Zn (hs.take k)):=(by simpa using u))
         | (refine Zj _ (by rfl) (.tmp 27) (.tmp 30) 223 (by rfl) w.heap.size 227 O _ 2 16 Tryz.underlying223 s n o r rfl (by omega) a.heap.size 0 0 [] (by rfl) (World.ownsRow.drew (World.ownsRow.alloc (World.ownsRow_lit a #[] 0 (by omega) (Nat.zero_le _) rfl) _)) (some ⟨g,0,none⟩) k c (Zn (hs.take k)) (by rfl) (I.out _ (((Below.refl _ _).alloc (Nat.le_refl _) _).alloc (by simp) _).drew) (by unfold maxLen;omega) (by omega) (by simp;omega) (a.heap.size+1+1) (by simp) ?_;intro v G m u h R Q;rw [Nat.zero_add];have b:Below a.heap.size a m:=(((Below.refl _ _).alloc (Nat.le_refl _) _).alloc (by simp) _).drew.grown h (by simp;omega) (by intro q t;cases t;exact Nat.le_refl _);have S:a.heap.size<=v:=(by omega);have l:m.ownsRow w.heap.size 227 2 (.slice (some ⟨v,0,none⟩) k G) k (Zn (hs.take k)):=(by simpa using u);have hX:m.heap[a.heap.size+1]? =some (.cells #[.int .i64 x.1,.int .i64 x.2] 227 (0,0)):=Zfa h)
         | (refine Zj _ (by rfl) (.tmp 27) (.tmp 30) 223 (by rfl) w.heap.size 227 O _ 2 16 Tryz.underlying223 s n o r rfl (by omega) (a.heap.size+1) 0 0 [] (by rfl) (Zfc a _ (by omega)) (some ⟨g,0,none⟩) k c (Zn (hs.take k)) (by rfl) (I.out _ (((Below.refl _ _).alloc (Nat.le_refl _) _).alloc (by simp) _).drew) (by unfold maxLen;omega) (by omega) (by simp;omega) (a.heap.size+1+1) (by simp) ?_;intro v G m u h R Q;rw [Nat.zero_add];have b:Below a.heap.size a m:=(((Below.refl _ _).alloc (Nat.le_refl _) _).alloc (by simp) _).drew.grown h (by simp;omega) (by intro q t;cases t;omega);have S:a.heap.size<=v:=(by omega);have l:m.ownsRow w.heap.size 227 2 (.slice (some ⟨v,0,none⟩) k G) k (Zn (hs.take k)):=(by simpa using u);have hX:m.heap[a.heap.size]? =some (.cells #[.int .i64 x.1,.int .i64 x.2] 227 (0,0)):=Zfb h)
         | (refine Zj _ (by rfl) (.tmp 31) (.tmp 33) 223 (by rfl) w.heap.size 227 O _ 2 16 Tryz.underlying223 s n o r rfl (by omega) v k G (Zn (hs.take k)) (by rfl) l (some ⟨_,0,none⟩) 1 1 (Zn [x]) (by rfl) (Zb5 hX) (by unfold maxLen;omega) (by omega) (by have:=b.size;omega) m.heap.size (by rfl) ?_;intro M T N C E X Z;have d:Below a.heap.size a N:=b.grown E b.size (by intro q t;cases t;exact S);have A:a.heap.size<=M:=(by have:=b.size;omega);have z:N.ownsRow w.heap.size 227 2 (.slice (some ⟨M,0,none⟩) (k+1) T) (k+1) (Zn (hs.take k)++Zn [x]):=C)
         | (refine Zj _ (by rfl) (.tmp 31) (.tmp 33) 223 (by rfl) w.heap.size 227 O _ 2 16 Tryz.underlying223 s n o r rfl (by omega) v k G (Zn (hs.take k)) (by rfl) (World.ownsRow.alloc l _) (some ⟨m.heap.size,0,none⟩) 1 1 (Zn [x]) (by rfl) (Zb5 (heap_alloc_new m _)) (by unfold maxLen;omega) (by omega) (by have:=b.size;simp;omega) (m.heap.size+1) (by simp) ?_;intro M T N C E X Z;have d:Below a.heap.size a N:=(b.alloc b.size _).grown E (by have:=b.size;simp;omega) (by intro q t;cases t;exact S);have A:a.heap.size<=M:=(by have:=b.size;omega);have z:N.ownsRow w.heap.size 227 2 (.slice (some ⟨M,0,none⟩) (k+1) T) (k+1) (Zn (hs.take k)++Zn [x]):=C)
         | (refine Zj _ (by rfl) (.tmp 34) (.tmp 35) 223 (by rfl) w.heap.size 227 O _ 2 16 Tryz.underlying223 s n o r rfl (by omega) M (k+1) T (Zn (hs.take k)++Zn [x]) (by rfl) z (some ⟨gr,0,none⟩) (hs.length-k) cr (Zn (hs.drop k)) (by rfl) (W.out _ d) (by unfold maxLen;omega) (by omega) (by have:=d.size;omega) N.heap.size (by rfl) ?_;intro gC cC wC a0 P ak ag;have f0:=(d.cell (p:=⟨w.heap.size,0,none⟩) f).trans D;have f1:=(d.cell (p:=⟨w.heap.size,1,none⟩) f).trans H))
      all_goals
       have y:k+1+(hs.length-k)=(ZbV hs x).length:=by rw [Zdd];omega
       go_wp2
       go_ret
       refine⟨gC,cC,by rw [<-y];rfl,ZT.of a0 y (by rw [a9.out,Zak,Zak,List.append_assoc]),Y.out.trans ((d.grown P d.size (by intro q t;cases t;exact A)).mono (by omega))⟩
  · obtain rfl:k=hs.length:=by omega
    have a9:=Za (Zf5 hs x hs.length hk HA.out (Or.inl rfl))
    have aO:decide ((hs.length:Int)<(hs.length:Int))=false:=by simp
    have aC:(hs.length:Int)<=(c:Int):=by omega
    go_wp2_with fail
    go_quiet (fail)
    have LF:=Za (below_drewN al.out nq)
    have a5:=LF.out.size
    generalize wr.drewN nq=K at *
    by_cases hce:c=hs.length
    · subst hce
      by_cases hemp:hs=[]
      · subst hemp
        go_wp2_with fail
        have J:Below W0.heap.size W0 (K.alloc (.cells #[] 227)):=LF.out.alloc a5 _
        have F:ZT w.heap.size (K.alloc (.cells #[] 227)) K.heap.size 0 []:=ZT.start K _ (by omega)
        generalize K.alloc (.cells #[] 227)=a at *
        generalize K.heap.size=gr at *
        have f:w.heap.size<a.heap.size:=by have:=J.size;omega
        have D:=(J.cell (p:=⟨w.heap.size,0,none⟩) (by simp;omega)).trans c0
        have H:=(J.cell (p:=⟨w.heap.size,1,none⟩) (by simp;omega)).trans c1
        have Y:=Za (U.out.trans (J.mono U.out.size))
        have V:g<a.heap.size:=by omega
        have I:Hid (∀w',Below a.heap.size a w'->ZX w' 2 (some ⟨g,0,none⟩) 0 (Zn [])):=fun w' L=>by
         have hv:Za7 w' (some ⟨g,0,none⟩) []:=Or.inr ⟨g,0,rfl,by have:=L.size;omega,((HS.out.below (by omega) J).below V L)⟩
         exact hv.src
        have W:Hid (∀w',Below a.heap.size a w'->ZX w' 2 (some ⟨gr,0,none⟩) 0 (Zn [])):=fun w' L=>((F.view).next L).src
        have ai:(0:Int)<=(0:Int):=by omega
        have af:(0:Int)<=(0:Int):=by omega
        clear a3 a4 LF c0 c1
        go_region_held3 (fun w'=>(w'.cell? ⟨w.heap.size,0,none⟩=some (.int .i64 x.1)/\w'.cell? ⟨w.heap.size,1,none⟩=some (.int .i64 x.2))/\Below a.heap.size a w')
         (first
           | exact⟨⟨D,H⟩,(Below.refl _ _).drew⟩
           | exact Zbq.grown ⟨⟨f0,f1⟩,d⟩ f P A
           | exact Zbq.of f D H d
           | exact Zbq.of f D H (b.alloc (by omega) _)
           | exact Zbq.of f D H b
           | exact Zbq.of f D H ((Below.refl _ _).alloc (Nat.le_refl _) _).drew
           | exact Zbq.of f D H (((Below.refl _ _).alloc (Nat.le_refl _) _).alloc (by simp) _).drew)
         (first
           | (refine Zj _ (by rfl) (.tmp 27) (.tmp 30) 223 (by rfl) w.heap.size 227 O _ 2 16 Tryz.underlying223 s n o r rfl (by omega) a.heap.size 0 0 [] (by rfl) (World.ownsRow.drew (World.ownsRow_lit a #[] 0 (by omega) (Nat.zero_le _) rfl)) (some ⟨g,0,none⟩) 0 0 (Zn []) (by rfl) (I.out _ ((Below.refl _ _).alloc (Nat.le_refl _) _).drew) (by unfold maxLen;omega) (by omega) (by simp;omega) (a.heap.size+1) (by simp) ?_;intro v G m u h R Q;try rw [Nat.zero_add];have b:Below a.heap.size a m:=((Below.refl _ _).alloc (Nat.le_refl _) _).drew.grown h (by simp) (by intro q t;cases t;exact Nat.le_refl _);have S:a.heap.size<=v:=(by omega);have l:m.ownsRow w.heap.size 227 2 (.slice (some ⟨v,0,none⟩) 0 G) 0 (Zn []):=(by simpa using u))
           | (refine Zj _ (by rfl) (.tmp 27) (.tmp 30) 223 (by rfl) w.heap.size 227 O _ 2 16 Tryz.underlying223 s n o r rfl (by omega) a.heap.size 0 0 [] (by rfl) (World.ownsRow.drew (World.ownsRow.alloc (World.ownsRow_lit a #[] 0 (by omega) (Nat.zero_le _) rfl) _)) (some ⟨g,0,none⟩) 0 0 (Zn []) (by rfl) (I.out _ (((Below.refl _ _).alloc (Nat.le_refl _) _).alloc (by simp) _).drew) (by unfold maxLen;omega) (by omega) (by simp;omega) (a.heap.size+1+1) (by simp) ?_;intro v G m u h R Q;try rw [Nat.zero_add];have b:Below a.heap.size a m:=(((Below.refl _ _).alloc (Nat.le_refl _) _).alloc (by simp) _).drew.grown h (by simp;omega) (by intro q t;cases t;exact Nat.le_refl _);have S:a.heap.size<=v:=(by omega);have l:m.ownsRow w.heap.size 227 2 (.slice (some ⟨v,0,none⟩) 0 G) 0 (Zn []):=(by simpa using u);have hX:m.heap[a.heap.size+1]? =some (.cells #[.int .i64 x.1,.int .i64 x.2] 227 (0,0)):=Zfa h)
           | (refine Zj _ (by rfl) (.tmp 27) (.tmp 30) 223 (by rfl) w.heap.size 227 O _ 2 16 Tryz.underlying223 s n o r rfl (by omega) (a.heap.size+1) 0 0 [] (by rfl) (Zfc a _ (by omega)) (some ⟨g,0,none⟩) 0 0 (Zn []) (by rfl) (I.out _ (((Below.refl _ _).alloc (Nat.le_refl _) _).alloc (by simp) _).drew) (by unfold maxLen;omega) (by omega) (by simp;omega) (a.heap.size+1+1) (by simp) ?_;intro v G m u h R Q;try rw [Nat.zero_add];have b:Below a.heap.size a m:=(((Below.refl _ _).alloc (Nat.le_refl _) _).alloc (by simp) _).drew.grown h (by simp;omega) (by intro q t;cases t;omega);have S:a.heap.size<=v:=(by omega);have l:m.ownsRow w.heap.size 227 2 (.slice (some ⟨v,0,none⟩) 0 G) 0 (Zn []):=(by simpa using u);have hX:m.heap[a.heap.size]? =some (.cells #[.int .i64 x.1,.int .i64 x.2] 227 (0,0)):=Zfb h)
           | (refine Zj _ (by rfl) (.tmp 31) (.tmp 33) 223 (by rfl) w.heap.size 227 O _ 2 16 Tryz.underlying223 s n o r rfl (by omega) v 0 G (Zn []) (by rfl) l (some ⟨_,0,none⟩) 1 1 (Zn [x]) (by rfl) (Zb5 hX) (by unfold maxLen;omega) (by omega) (by have:=b.size;omega) m.heap.size (by rfl) ?_;intro M T N C E X Z;have d:Below a.heap.size a N:=b.grown E b.size (by intro q t;cases t;exact S);have A:a.heap.size<=M:=(by have:=b.size;omega);have z:N.ownsRow w.heap.size 227 2 (.slice (some ⟨M,0,none⟩) (0+1) T) (0+1) (Zn ([])++Zn [x]):=C)
           | (refine Zj _ (by rfl) (.tmp 31) (.tmp 33) 223 (by rfl) w.heap.size 227 O _ 2 16 Tryz.underlying223 s n o r rfl (by omega) v 0 G (Zn []) (by rfl) (World.ownsRow.alloc l _) (some ⟨m.heap.size,0,none⟩) 1 1 (Zn [x]) (by rfl) (Zb5 (heap_alloc_new m _)) (by unfold maxLen;omega) (by omega) (by have:=b.size;simp;omega) (m.heap.size+1) (by simp) ?_;intro M T N C E X Z;have d:Below a.heap.size a N:=(b.alloc b.size _).grown E (by have:=b.size;simp;omega) (by intro q t;cases t;exact S);have A:a.heap.size<=M:=(by have:=b.size;omega);have z:N.ownsRow w.heap.size 227 2 (.slice (some ⟨M,0,none⟩) (0+1) T) (0+1) (Zn ([])++Zn [x]):=C)
           | (refine Zj _ (by rfl) (.tmp 34) (.tmp 35) 223 (by rfl) w.heap.size 227 O _ 2 16 Tryz.underlying223 s n o r rfl (by omega) M (0+1) T (Zn ([])++Zn [x]) (by rfl) z (some ⟨gr,0,none⟩) 0 0 (Zn ([])) (by rfl) (W.out _ d) (by unfold maxLen;omega) (by omega) (by have:=d.size;omega) N.heap.size (by rfl) ?_;intro gC cC wC a0 P ak ag;have f0:=(d.cell (p:=⟨w.heap.size,0,none⟩) f).trans D;have f1:=(d.cell (p:=⟨w.heap.size,1,none⟩) f).trans H))
        all_goals
         have y:0+1+0=(ZbV [] x).length:=rfl
         go_wp2
         go_ret
         refine⟨gC,cC,by rw [<-y] <;> rfl,ZT.of a0 y rfl,Y.out.trans ((d.grown P d.size (by intro q t;cases t;exact A)).mono (by omega))⟩
      · have av:¬hs.length=0:=by simpa using hemp
        go_wp2_with fail
        have J:Below W0.heap.size W0 (K.alloc (.cells #[] 227)):=LF.out.alloc a5 _
        have F:ZT w.heap.size (K.alloc (.cells #[] 227)) K.heap.size 0 []:=ZT.start K _ (by omega)
        generalize K.alloc (.cells #[] 227)=a at *
        generalize K.heap.size=gr at *
        have f:w.heap.size<a.heap.size:=by have:=J.size;omega
        have D:=(J.cell (p:=⟨w.heap.size,0,none⟩) (by simp;omega)).trans c0
        have H:=(J.cell (p:=⟨w.heap.size,1,none⟩) (by simp;omega)).trans c1
        have Y:=Za (U.out.trans (J.mono U.out.size))
        have V:g<a.heap.size:=by omega
        have I:Hid (∀w',Below a.heap.size a w'->ZX w' 2 (some ⟨g,0,none⟩) hs.length (Zn hs)):=fun w' L=>by
         have hv:Za7 w' (some ⟨g,0,none⟩) hs:=Or.inr ⟨g,0,rfl,by have:=L.size;omega,((HS.out.below (by omega) J).below V L)⟩
         exact hv.src
        have W:Hid (∀w',Below a.heap.size a w'->ZX w' 2 (some ⟨gr,0,none⟩) 0 (Zn [])):=fun w' L=>((F.view).next L).src
        have ai:(hs.length:Int)<=(hs.length:Int):=by omega
        have af:(0:Int)<=(hs.length:Int):=by omega
        clear a3 a4 LF c0 c1
        go_region_held3 (fun w'=>(w'.cell? ⟨w.heap.size,0,none⟩=some (.int .i64 x.1)/\w'.cell? ⟨w.heap.size,1,none⟩=some (.int .i64 x.2))/\Below a.heap.size a w')
         (first
           | exact⟨⟨D,H⟩,(Below.refl _ _).drew⟩
           | exact Zbq.grown ⟨⟨f0,f1⟩,d⟩ f P A
           | exact Zbq.of f D H d
           | exact Zbq.of f D H (b.alloc (by omega) _)
           | exact Zbq.of f D H b
           | exact Zbq.of f D H ((Below.refl _ _).alloc (Nat.le_refl _) _).drew
           | exact Zbq.of f D H (((Below.refl _ _).alloc (Nat.le_refl _) _).alloc (by simp) _).drew)
         (first
           | (refine Zj _ (by rfl) (.tmp 27) (.tmp 30) 223 (by rfl) w.heap.size 227 O _ 2 16 Tryz.underlying223 s n o r rfl (by omega) a.heap.size 0 0 [] (by rfl) (World.ownsRow.drew (World.ownsRow_lit a #[] 0 (by omega) (Nat.zero_le _) rfl)) (some ⟨g,0,none⟩) hs.length hs.length (Zn hs) (by rfl) (I.out _ ((Below.refl _ _).alloc (Nat.le_refl _) _).drew) (by unfold maxLen;omega) (by omega) (by simp;omega) (a.heap.size+1) (by simp) ?_;intro v G m u h R Q;try rw [Nat.zero_add];have b:Below a.heap.size a m:=((Below.refl _ _).alloc (Nat.le_refl _) _).drew.grown h (by simp) (by intro q t;cases t;exact Nat.le_refl _);have S:a.heap.size<=v:=(by omega);have l:m.ownsRow w.heap.size 227 2 (.slice (some ⟨v,0,none⟩) hs.length G) hs.length (Zn hs):=(by simpa using u))
           | (refine Zj _ (by rfl) (.tmp 27) (.tmp 30) 223 (by rfl) w.heap.size 227 O _ 2 16 Tryz.underlying223 s n o r rfl (by omega) a.heap.size 0 0 [] (by rfl) (World.ownsRow.drew (World.ownsRow.alloc (World.ownsRow_lit a #[] 0 (by omega) (Nat.zero_le _) rfl) _)) (some ⟨g,0,none⟩) hs.length hs.length (Zn hs) (by rfl) (I.out _ (((Below.refl _ _).alloc (Nat.le_refl _) _).alloc (by simp) _).drew) (by unfold maxLen;omega) (by omega) (by simp;omega) (a.heap.size+1+1) (by simp) ?_;intro v G m u h R Q;try rw [Nat.zero_add];have b:Below a.heap.size a m:=(((Below.refl _ _).alloc (Nat.le_refl _) _).alloc (by simp) _).drew.grown h (by simp;omega) (by intro q t;cases t;exact Nat.le_refl _);have S:a.heap.size<=v:=(by omega);have l:m.ownsRow w.heap.size 227 2 (.slice (some ⟨v,0,none⟩) hs.length G) hs.length (Zn hs):=(by simpa using u);have hX:m.heap[a.heap.size+1]? =some (.cells #[.int .i64 x.1,.int .i64 x.2] 227 (0,0)):=Zfa h)
           | (refine Zj _ (by rfl) (.tmp 27) (.tmp 30) 223 (by rfl) w.heap.size 227 O _ 2 16 Tryz.underlying223 s n o r rfl (by omega) (a.heap.size+1) 0 0 [] (by rfl) (Zfc a _ (by omega)) (some ⟨g,0,none⟩) hs.length hs.length (Zn hs) (by rfl) (I.out _ (((Below.refl _ _).alloc (Nat.le_refl _) _).alloc (by simp) _).drew) (by unfold maxLen;omega) (by omega) (by simp;omega) (a.heap.size+1+1) (by simp) ?_;intro v G m u h R Q;try rw [Nat.zero_add];have b:Below a.heap.size a m:=(((Below.refl _ _).alloc (Nat.le_refl _) _).alloc (by simp) _).drew.grown h (by simp;omega) (by intro q t;cases t;omega);have S:a.heap.size<=v:=(by omega);have l:m.ownsRow w.heap.size 227 2 (.slice (some ⟨v,0,none⟩) hs.length G) hs.length (Zn hs):=(by simpa using u);have hX:m.heap[a.heap.size]? =some (.cells #[.int .i64 x.1,.int .i64 x.2] 227 (0,0)):=Zfb h)
           | (refine Zj _ (by rfl) (.tmp 31) (.tmp 33) 223 (by rfl) w.heap.size 227 O _ 2 16 Tryz.underlying223 s n o r rfl (by omega) v hs.length G (Zn hs) (by rfl) l (some ⟨_,0,none⟩) 1 1 (Zn [x]) (by rfl) (Zb5 hX) (by unfold maxLen;omega) (by omega) (by have:=b.size;omega) m.heap.size (by rfl) ?_;intro M T N C E X Z;have d:Below a.heap.size a N:=b.grown E b.size (by intro q t;cases t;exact S);have A:a.heap.size<=M:=(by have:=b.size;omega);have z:N.ownsRow w.heap.size 227 2 (.slice (some ⟨M,0,none⟩) (hs.length+1) T) (hs.length+1) (Zn (hs)++Zn [x]):=C)
           | (refine Zj _ (by rfl) (.tmp 31) (.tmp 33) 223 (by rfl) w.heap.size 227 O _ 2 16 Tryz.underlying223 s n o r rfl (by omega) v hs.length G (Zn hs) (by rfl) (World.ownsRow.alloc l _) (some ⟨m.heap.size,0,none⟩) 1 1 (Zn [x]) (by rfl) (Zb5 (heap_alloc_new m _)) (by unfold maxLen;omega) (by omega) (by have:=b.size;simp;omega) (m.heap.size+1) (by simp) ?_;intro M T N C E X Z;have d:Below a.heap.size a N:=(b.alloc b.size _).grown E (by have:=b.size;simp;omega) (by intro q t;cases t;exact S);have A:a.heap.size<=M:=(by have:=b.size;omega);have z:N.ownsRow w.heap.size 227 2 (.slice (some ⟨M,0,none⟩) (hs.length+1) T) (hs.length+1) (Zn (hs)++Zn [x]):=C)
           | (refine Zj _ (by rfl) (.tmp 34) (.tmp 35) 223 (by rfl) w.heap.size 227 O _ 2 16 Tryz.underlying223 s n o r rfl (by omega) M (hs.length+1) T (Zn (hs)++Zn [x]) (by rfl) z (some ⟨gr,0,none⟩) 0 0 (Zn ([])) (by rfl) (W.out _ d) (by unfold maxLen;omega) (by omega) (by have:=d.size;omega) N.heap.size (by rfl) ?_;intro gC cC wC a0 P ak ag;have f0:=(d.cell (p:=⟨w.heap.size,0,none⟩) f).trans D;have f1:=(d.cell (p:=⟨w.heap.size,1,none⟩) f).trans H))
        all_goals
         have y:hs.length+1+0=(ZbV hs x).length:=by rw [Zdd]
         go_wp2
         go_ret
         refine⟨gC,cC,by rw [<-y] <;> rfl,ZT.of a0 y (by rw [a9.out,List.take_length,List.drop_length,Zak,Zak,List.append_assoc]),Y.out.trans ((d.grown P d.size (by intro q t;cases t;exact A)).mono (by omega))⟩
    · have av:¬c=0:=by omega
      go_wp2_with fail
      have J:Below W0.heap.size W0 (K.alloc (.cells #[] 227)):=LF.out.alloc a5 _
      have F:ZT w.heap.size (K.alloc (.cells #[] 227)) K.heap.size 0 []:=ZT.start K _ (by omega)
      generalize K.alloc (.cells #[] 227)=a at *
      generalize K.heap.size=gr at *
      have f:w.heap.size<a.heap.size:=by have:=J.size;omega
      have D:=(J.cell (p:=⟨w.heap.size,0,none⟩) (by simp;omega)).trans c0
      have H:=(J.cell (p:=⟨w.heap.size,1,none⟩) (by simp;omega)).trans c1
      have Y:=Za (U.out.trans (J.mono U.out.size))
      have V:g<a.heap.size:=by omega
      have I:Hid (∀w',Below a.heap.size a w'->ZX w' 2 (some ⟨g,0,none⟩) hs.length (Zn hs)):=fun w' L=>by
       have hv:Za7 w' (some ⟨g,0,none⟩) hs:=Or.inr ⟨g,0,rfl,by have:=L.size;omega,((HS.out.below (by omega) J).below V L)⟩
       exact hv.src
      have W:Hid (∀w',Below a.heap.size a w'->ZX w' 2 (some ⟨gr,0,none⟩) 0 (Zn [])):=fun w' L=>((F.view).next L).src
      have ai:(hs.length:Int)<=(c:Int):=by omega
      have af:(0:Int)<=(hs.length:Int):=by omega
      clear a3 a4 LF c0 c1
      go_region_held3 (fun w'=>(w'.cell? ⟨w.heap.size,0,none⟩=some (.int .i64 x.1)/\w'.cell? ⟨w.heap.size,1,none⟩=some (.int .i64 x.2))/\Below a.heap.size a w')
       (first
         | exact⟨⟨D,H⟩,(Below.refl _ _).drew⟩
         | exact Zbq.grown ⟨⟨f0,f1⟩,d⟩ f P A
         | exact Zbq.of f D H d
         | exact Zbq.of f D H (b.alloc (by omega) _)
         | exact Zbq.of f D H b
         | exact Zbq.of f D H ((Below.refl _ _).alloc (Nat.le_refl _) _).drew
         | exact Zbq.of f D H (((Below.refl _ _).alloc (Nat.le_refl _) _).alloc (by simp) _).drew)
       (first
         | (refine Zj _ (by rfl) (.tmp 27) (.tmp 30) 223 (by rfl) w.heap.size 227 O _ 2 16 Tryz.underlying223 s n o r rfl (by omega) a.heap.size 0 0 [] (by rfl) (World.ownsRow.drew (World.ownsRow_lit a #[] 0 (by omega) (Nat.zero_le _) rfl)) (some ⟨g,0,none⟩) hs.length c (Zn hs) (by rfl) (I.out _ ((Below.refl _ _).alloc (Nat.le_refl _) _).drew) (by unfold maxLen;omega) (by omega) (by simp;omega) (a.heap.size+1) (by simp) ?_;intro v G m u h R Q;try rw [Nat.zero_add];have b:Below a.heap.size a m:=((Below.refl _ _).alloc (Nat.le_refl _) _).drew.grown h (by simp) (by intro q t;cases t;exact Nat.le_refl _);have S:a.heap.size<=v:=(by omega);have l:m.ownsRow w.heap.size 227 2 (.slice (some ⟨v,0,none⟩) hs.length G) hs.length (Zn hs):=(by simpa using u))
         | (refine Zj _ (by rfl) (.tmp 27) (.tmp 30) 223 (by rfl) w.heap.size 227 O _ 2 16 Tryz.underlying223 s n o r rfl (by omega) a.heap.size 0 0 [] (by rfl) (World.ownsRow.drew (World.ownsRow.alloc (World.ownsRow_lit a #[] 0 (by omega) (Nat.zero_le _) rfl) _)) (some ⟨g,0,none⟩) hs.length c (Zn hs) (by rfl) (I.out _ (((Below.refl _ _).alloc (Nat.le_refl _) _).alloc (by simp) _).drew) (by unfold maxLen;omega) (by omega) (by simp;omega) (a.heap.size+1+1) (by simp) ?_;intro v G m u h R Q;try rw [Nat.zero_add];have b:Below a.heap.size a m:=(((Below.refl _ _).alloc (Nat.le_refl _) _).alloc (by simp) _).drew.grown h (by simp;omega) (by intro q t;cases t;exact Nat.le_refl _);have S:a.heap.size<=v:=(by omega);have l:m.ownsRow w.heap.size 227 2 (.slice (some ⟨v,0,none⟩) hs.length G) hs.length (Zn hs):=(by simpa using u);have hX:m.heap[a.heap.size+1]? =some (.cells #[.int .i64 x.1,.int .i64 x.2] 227 (0,0)):=Zfa h)
         | (refine Zj _ (by rfl) (.tmp 27) (.tmp 30) 223 (by rfl) w.heap.size 227 O _ 2 16 Tryz.underlying223 s n o r rfl (by omega) (a.heap.size+1) 0 0 [] (by rfl) (Zfc a _ (by omega)) (some ⟨g,0,none⟩) hs.length c (Zn hs) (by rfl) (I.out _ (((Below.refl _ _).alloc (Nat.le_refl _) _).alloc (by simp) _).drew) (by unfold maxLen;omega) (by omega) (by simp;omega) (a.heap.size+1+1) (by simp) ?_;intro v G m u h R Q;try rw [Nat.zero_add];have b:Below a.heap.size a m:=(((Below.refl _ _).alloc (Nat.le_refl _) _).alloc (by simp) _).drew.grown h (by simp;omega) (by intro q t;cases t;omega);have S:a.heap.size<=v:=(by omega);have l:m.ownsRow w.heap.size 227 2 (.slice (some ⟨v,0,none⟩) hs.length G) hs.length (Zn hs):=(by simpa using u);have hX:m.heap[a.heap.size]? =some (.cells #[.int .i64 x.1,.int .i64 x.2] 227 (0,0)):=Zfb h)
         | (refine Zj _ (by rfl) (.tmp 31) (.tmp 33) 223 (by rfl) w.heap.size 227 O _ 2 16 Tryz.underlying223 s n o r rfl (by omega) v hs.length G (Zn hs) (by rfl) l (some ⟨_,0,none⟩) 1 1 (Zn [x]) (by rfl) (Zb5 hX) (by unfold maxLen;omega) (by omega) (by have:=b.size;omega) m.heap.size (by rfl) ?_;intro M T N C E X Z;have d:Below a.heap.size a N:=b.grown E b.size (by intro q t;cases t;exact S);have A:a.heap.size<=M:=(by have:=b.size;omega);have z:N.ownsRow w.heap.size 227 2 (.slice (some ⟨M,0,none⟩) (hs.length+1) T) (hs.length+1) (Zn (hs)++Zn [x]):=C)
         | (refine Zj _ (by rfl) (.tmp 31) (.tmp 33) 223 (by rfl) w.heap.size 227 O _ 2 16 Tryz.underlying223 s n o r rfl (by omega) v hs.length G (Zn hs) (by rfl) (World.ownsRow.alloc l _) (some ⟨m.heap.size,0,none⟩) 1 1 (Zn [x]) (by rfl) (Zb5 (heap_alloc_new m _)) (by unfold maxLen;omega) (by omega) (by have:=b.size;simp;omega) (m.heap.size+1) (by simp) ?_;intro M T N C E X Z;have d:Below a.heap.size a N:=(b.alloc b.size _).grown E (by have:=b.size;simp;omega) (by intro q t;cases t;exact S);have A:a.heap.size<=M:=(by have:=b.size;omega);have z:N.ownsRow w.heap.size 227 2 (.slice (some ⟨M,0,none⟩) (hs.length+1) T) (hs.length+1) (Zn (hs)++Zn [x]):=C)
         | (refine Zj _ (by rfl) (.tmp 34) (.tmp 35) 223 (by rfl) w.heap.size 227 O _ 2 16 Tryz.underlying223 s n o r rfl (by omega) M (hs.length+1) T (Zn (hs)++Zn [x]) (by rfl) z (some ⟨gr,0,none⟩) 0 0 (Zn ([])) (by rfl) (W.out _ d) (by unfold maxLen;omega) (by omega) (by have:=d.size;omega) N.heap.size (by rfl) ?_;intro gC cC wC a0 P ak ag;have f0:=(d.cell (p:=⟨w.heap.size,0,none⟩) f).trans D;have f1:=(d.cell (p:=⟨w.heap.size,1,none⟩) f).trans H))
      all_goals
       have y:hs.length+1+0=(ZbV hs x).length:=by rw [Zdd]
       go_wp2
       go_ret
       refine⟨gC,cC,by rw [<-y] <;> rfl,ZT.of a0 y (by rw [a9.out,List.take_length,List.drop_length,Zak,Zak,List.append_assoc]),Y.out.trans ((d.grown P d.size (by intro q t;cases t;exact A)).mono (by omega))⟩
abbrev Sm:=Int×Option Addr×Nat×List Int
def Zah:List Sm->List Value
 | []=>[]
 | d::ds=>.int .i64 d.1::.slice d.2.1 d.2.2.2.length d.2.2.1::Zah ds
def Zhi(d:Sm):Mk:=(d.1,d.2.2.2)
def Za9(ds:List Sm):List Mk:=ds.map Zhi
def Zdb(ds:List Sm)(i:Nat):Sm:=ds.getD i (0,none,0,[])
def ZeY(base:Nat)(w:World)(g c:Nat)(ds:List Sm):Prop:=w.ownsRow base 161 2 (.slice (some ⟨g,0,none⟩) ds.length c) ds.length (Zah ds)
def ZgA(W:World)(ds:List Sm):Prop:=∀d∈ds,Zy W d.2.1 d.2.2.2
theorem Zdh(ds:List Sm):(Zah ds).length=ds.length*2:=by
 induction ds with
 | nil=>rfl
 | cons d ds ih=>simp [Zah,ih];omega
theorem Zf6(ds es:List Sm):Zah (ds++es)=Zah ds++Zah es:=by
 induction ds with
 | nil=>rfl
 | cons d ds ih=>simp [Zah,ih]
theorem Zf7(ds:List Sm)(i:Nat)(h:i<ds.length):(Zah ds)[i*2]? =some (.int .i64 (Zdb ds i).1)/\(Zah ds)[i*2+1]? =some (.slice (Zdb ds i).2.1 (Zdb ds i).2.2.2.length (Zdb ds i).2.2.1):=by
 induction ds generalizing i with
 | nil=>simp at h
 | cons d ds ih=>
   match i,h with
   | 0,_=>exact⟨rfl,rfl⟩
   | k+1,h=>
     have:=ih k (by simpa using h)
     rw [show (k+1)*2=k*2+1+1 by omega]
     exact this
theorem ZeY.lt{base:Nat}{w:World}{g c:Nat}{ds:List Sm}(h:ZeY base w g c ds):base<=g/\g<w.heap.size:=World.ownsRow.lt h g rfl
theorem Zni{ds:List Sm}{i:Nat}(h:i<ds.length):Zdb ds i∈ds:=by simp [Zdb,List.getD,h]
theorem Zf8(ds:List Sm):(Za9 ds).length=ds.length:=by simp [Za9]
theorem ZjI(ds:List Sm)(i:Nat)(h:i<ds.length):ZJ (Za9 ds) i=((Zdb ds i).1,(Zdb ds i).2.2.2):=by simp [ZJ,Za9,Zdb,List.getD,h,Zhi]
theorem ZeY.view{base:Nat}{W w:World}{g c:Nat}{ds:List Sm}(h:ZeY base w g c ds)(hs:ZgA W ds)(hb:Below W.heap.size W w):Zo w (some ⟨g,0,none⟩) (Za9 ds):=by
 refine Or.inr ⟨g,0,rfl,h.lt.2,fun i a=>?_⟩
 rw [Zf8] at a
 rw [ZjI ds i a,Nat.zero_add]
 obtain⟨c0,c1⟩:=Zf7 ds i a
 refine⟨?_,(Zdb ds i).2.1,(Zdb ds i).2.2.1,?_,(hs _ (Zni a)).next hb⟩
 · rw [World.ownsRow.cellAt h _ (by omega)];exact c0
 · rw [World.ownsRow.cellAt h _ (by omega)];exact c1
theorem ZgA.snoc{W:World}{ds:List Sm}{d:Sm}(h:ZgA W ds)(hd:Zy W d.2.1 d.2.2.2):ZgA W (ds++[d]):=fun x hx=>by
 rcases List.mem_append.1 hx with hx | hx
 · exact h x hx
 · simp at hx;subst hx;exact hd
theorem Zhj(ds:List Sm)(d:Sm):Za9 (ds++[d])=Za9 ds++[(d.1,d.2.2.2)]:=by simp [Za9,Zhi]
end Go.Proofs.YtilkaeclgmcolaaGreat
