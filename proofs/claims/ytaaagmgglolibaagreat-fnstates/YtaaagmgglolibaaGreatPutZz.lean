import Derived.Test.YtaaagmgglolibaaGreatHSpecZz
import Derived.Test.YtaaagmgglolibaaGreatMovedSZz
import Derived.Test.YtaaagmgglolibaaGreatMCellsZz
set_option maxRecDepth 100000
set_option maxHeartbeats 2000000
namespace Go.Proofs.YtaaagmgglolibaaGreat
open Go Go.RowKit
theorem Tryz.info66:(Tryz.prog.info? 66).map (fun i=>(i.zero,i.size,i.bytes))=some (some (.agg #[.int .i64 0,.int .i64 0]),2,16):=by kernel_rfl
def Zbt(w3:World)(q:Nat)(h:Ht)(w':World):Prop:=(w'.cell? ⟨q,0,none⟩=some (.int .i64 h.1)/\w'.cell? ⟨q,1,none⟩=some (.int .i64 h.2))/\Below w3.heap.size w3 w'
theorem Zbt.grown{w3 w' w4:World}{q n:Nat}{h:Ht}(hs:Zbt w3 q h w')(hq:q<w3.heap.size)(hg:w'.grownBy w4 (some n))(hn:w3.heap.size<=n):Zbt w3 q h w4:=by
 have hz:=hs.2.size
 have L:Below w3.heap.size w' w4:=(Below.refl _ _).grown hg (by omega) (by intro k hk;cases hk;exact hn)
 exact⟨⟨(L.cell (p:=⟨q,0,none⟩) hq).trans hs.1.1,(L.cell (p:=⟨q,1,none⟩) hq).trans hs.1.2⟩,hs.2.trans L⟩
theorem Zbt.of{w3 w':World}{q:Nat}{h:Ht}(hq:q<w3.heap.size)(e0:w3.cell? ⟨q,0,none⟩=some (.int .i64 h.1))(e1:w3.cell? ⟨q,1,none⟩=some (.int .i64 h.2))(L:Below w3.heap.size w3 w'):Zbt w3 q h w':=
 ⟨⟨(L.cell (p:=⟨q,0,none⟩) hq).trans e0,(L.cell (p:=⟨q,1,none⟩) hq).trans e1⟩,L⟩
theorem ZeM{w3 wA:World}{E X:Obj}(hg:((w3.alloc E).alloc X).drew.grownBy wA (some w3.heap.size)):wA.heap[w3.heap.size+1]? =some X:=by
 rw [hg.block (w3.heap.size+1) (by simp) (by simp)]
 show ((w3.heap.push E).push X)[w3.heap.size+1]? =_
 rw [Array.getElem?_push];simp
theorem ZeN{w3 wA:World}{E X:Obj}(hg:((w3.alloc X).alloc E).drew.grownBy wA (some (w3.heap.size+1))):wA.heap[w3.heap.size]? =some X:=by
 rw [hg.block w3.heap.size (by simp;omega) (by simp)]
 show ((w3.heap.push X).push E)[w3.heap.size]? =_
 rw [Array.getElem?_push];simp
theorem ZeO{base:Nat}(w3:World)(X:Obj)(hb:base<=w3.heap.size):((w3.alloc X).alloc (.cells #[] 66)).drew.ownsRow base 66 2 (.slice (some ⟨w3.heap.size+1,0,none⟩) 0 0) 0 []:=by
 have:=World.ownsRow_lit (base:=base) (e:=66) (size:=2) (w3.alloc X) #[] 0 (by simp;omega) (Nat.zero_le _) rfl
 rw [show (w3.alloc X).heap.size=w3.heap.size+1 by simp] at this
 exact World.ownsRow.drew this
theorem ZbV{w:World}{n:Nat}{h:Ht}(hb:w.heap[n]? =some (.cells #[.int .i64 h.1,.int .i64 h.2] 66 (0,0))):ZV w 2 (some ⟨n,0,none⟩) 1 (Zm [h]):=
 ⟨rfl,Zff [h],Or.inr ⟨_,rfl,World.news_of_block (cs:=#[.int .i64 h.1,.int .i64 h.2]) hb⟩⟩
theorem ZfE(hs:List Ht)(h:Ht)(k:Nat)(hk:k<=hs.length)(hall:∀j,j<k->Zai h (Zr hs j)=false)(hend:k=hs.length\/Zai h (Zr hs k)=true):ZbR hs h=hs.take k++([h]++hs.drop k):=by
 induction hs generalizing k with
 | nil=>simp at hk;subst hk;rfl
 | cons x xs ih=>
   cases k with
   | zero=>
     have:Zai h x=true:=by
      rcases hend with h1 | h1
      · simp at h1
      · exact h1
     simp [ZbR,this]
   | succ k=>
     have h0:Zai h x=false:=hall 0 (by omega)
     have:=ih k (by simpa using hk) (fun j hj=>hall (j+1) (by omega)) (by
      rcases hend with h1 | h1
      · left;simpa using h1
      · right;exact h1)
     simp [ZbR,h0,this]
theorem sPut(base g c:Nat)(hs:List Ht)(x:Ht)(w:World)(hr:ZN base w g c hs)(hn:hs.length<=4194304):
 Calls Tryz.prog 253 #[.slice (some ⟨g,0,none⟩) hs.length c,.agg #[.int .i64 x.1,.int .i64 x.2]] w fun e w'=>∃g' c',e=.returned (.slice (some ⟨g',0,none⟩) (ZbR hs x).length c')/\ZN w.heap.size w' g' c' (ZbR hs x)/\Below w.heap.size w w':=by
 obtain⟨j0,hj0,hy0,hy1,hy2⟩:=info_parts Tryz.info66
 have hcap:=hr.cap
 have L0:Below w.heap.size w (w.alloc (.cells #[.int .i64 x.1,.int .i64 x.2] 66)):=(Below.refl _ _).alloc (Nat.le_refl _) _
 have c0:(w.alloc (.cells #[.int .i64 x.1,.int .i64 x.2] 66)).cell? ⟨w.heap.size,0,none⟩=some (.int .i64 x.1):=by go_simp
 have c1:(w.alloc (.cells #[.int .i64 x.1,.int .i64 x.2] 66)).cell? ⟨w.heap.size,1,none⟩=some (.int .i64 x.2):=by go_simp
 have hsz:(w.alloc (.cells #[.int .i64 x.1,.int .i64 x.2] 66)).heap.size=w.heap.size+1:=by simp
 have hgl:=hr.lt.2
 have hseg:=hr.seg
 go_enter Tryz.func253,Tryz.ntmps253
 go_wp2_with fail
 generalize (w.alloc (.cells #[.int .i64 x.1,.int .i64 x.2] 66))=W0 at *
 have HS:=Za (hseg.below hgl L0)
 have HL0:=Za L0
 have HR:=Za hr
 clear hseg L0 hr
 go_loopw [5] (fun i wr=>∃k:Nat,k<=hs.length/\i=.int .i64 k/\(∀j,j<k->Zai x (Zr hs j)=false)/\Below W0.heap.size W0 wr) (fun i _=>hs.length-(intOf i).toNat)
 case atStart=>exact⟨0,Nat.zero_le _,rfl,fun j hj=>by omega,Below.refl _ _⟩
 case round=>
  obtain⟨k,hk,rfl,hall,L⟩:=hrel
  have HA:=Za hall
  have hz:=L.size
  have hd0:=(L.cell (p:=⟨w.heap.size,0,none⟩) (by simp;omega)).trans c0
  have hd1:=(L.cell (p:=⟨w.heap.size,1,none⟩) (by simp;omega)).trans c1
  have HLL:=Za L
  have HSW:=Za (HS.out.below (by omega) L)
  clear hall L
  by_cases hlt:k<hs.length
  · obtain⟨he0,he1⟩:=HSW.out k hlt
    rw [Nat.zero_add] at he0 he1
    have hi0:(0:Int)<=(k:Int):=Int.natCast_nonneg _
    have hi1:(k:Int)<(hs.length:Int):=by omega
    have hgw:g<wr.heap.size:=by omega
    have hww:w.heap.size<wr.heap.size:=by omega
    have HC:=Za (Zoi x (Zr hs k) wr.drew)
    go_wp2_with fail
    go_region_held3 (fun w'=>w'.cell? ⟨w.heap.size,0,none⟩=some (.int .i64 x.1)/\w'.cell? ⟨w.heap.size,1,none⟩=some (.int .i64 x.2)/\w'.cell? ⟨g,k*2,none⟩=some (.int .i64 (Zr hs k).1)/\w'.cell? ⟨g,k*2+1,none⟩=some (.int .i64 (Zr hs k).2))
     (first
       | go_keep
       | (refine⟨(L3.cell (p:=⟨w.heap.size,0,none⟩) hww).trans hd0,(L3.cell (p:=⟨w.heap.size,1,none⟩) hww).trans hd1,(L3.cell (p:=⟨g,k*2,none⟩) hgw).trans he0,(L3.cell (p:=⟨g,k*2+1,none⟩) hgw).trans he1⟩))
     (first
       | (go_at_call 252;refine HC.out.mono ?_;rintro e w2 ⟨rfl,L3⟩))
    have LF:=Za (HLL.out.drew.trans (L3.mono hz))
    clear L3 HC
    rcases hf:Zai x (Zr hs k) with _ | _
    · go_wp2_with fail
      go_roundw
      case rel=>exact⟨k+1,by omega,by go_num,fun i hi=>by
       rcases Nat.lt_or_ge i k with hh | hh
       · exact HA.out i hh
       · rw [show i=k by omega];exact hf,LF.out⟩
      case measure=>simp [intOf];omega
    · have HSP:=Za (ZfE hs x k hk HA.out (Or.inr hf))
      replace hd0:=(LF.out.cell (p:=⟨w.heap.size,0,none⟩) (by simp;omega)).trans c0
      replace hd1:=(LF.out.cell (p:=⟨w.heap.size,1,none⟩) (by simp;omega)).trans c1
      have hz2:=LF.out.size
      clear he0 he1 HSW HLL HA
      have hdl:(hs.drop k).length=hs.length-k:=by simp
      have htl:(hs.take k).length=k:=by simp;omega
      have HVG:=Za (HS.out.below (by omega) LF.out)
      have LA:Below w2.heap.size w2 (w2.alloc (.cells #[] 66)):=(Below.refl _ _).alloc (Nat.le_refl _) _
      have HSRC:Hid (ZV (w2.alloc (.cells #[] 66)) 2 (some ⟨g,k*2,none⟩) (hs.length-k) (Zm (hs.drop k))):=by
       have hv:Za3 (w2.alloc (.cells #[] 66)) (some ⟨g,k*2,none⟩) (hs.drop k):=Or.inr ⟨g,k*2,rfl,by simp;omega,by
        have:=(HVG.out.drop k).below (B:=w2.heap.size) (by omega) LA
        rwa [Nat.zero_add] at this⟩
       have:=hv.src
       rwa [hdl] at this
      go_wp2_with (at_builtin;refine Zx _ rfl (.tmp 22) (.tmp 25) 36 rfl w.heap.size 66 j0 _ 2 16 Tryz.underlying36 hj0 hy0 hy1 hy2 rfl (by omega) w2.heap.size 0 0 [] rfl (World.ownsRow_lit w2 #[] 0 (by omega) (Nat.zero_le _) rfl) (some ⟨g,k*2,none⟩) (hs.length-k) (c-k) (Zm (hs.drop k)) rfl HSRC.out (by unfold maxLen;omega) (by omega) (by simp;omega) (w2.heap.size+1) (by simp) ?_;intro gr cr w3 hownr hgrowr hatr hltr)
      have hrest:ZN w.heap.size w3 gr cr (hs.drop k):=ZN.of hownr (by omega) (by simp)
      have L3:Below W0.heap.size W0 w3:=(LF.out.trans (LA.mono hz2)).grown hgrowr (by simp;omega) (by intro q hq;cases hq;exact hz2)
      have hq3:w.heap.size<w3.heap.size:=by have:=L3.size;omega
      have e0:=(L3.cell (p:=⟨w.heap.size,0,none⟩) (by simp;omega)).trans c0
      have e1:=(L3.cell (p:=⟨w.heap.size,1,none⟩) (by simp;omega)).trans c1
      have HLW:=Za (HL0.out.trans (L3.mono HL0.out.size))
      have hg3:g<w3.heap.size:=by omega
      have HVT:Hid (∀w',Below w3.heap.size w3 w'->ZV w' 2 (some ⟨g,0,none⟩) k (Zm (hs.take k))):=fun w' L=>by
       have hv:Za3 w' (some ⟨g,0,none⟩) (hs.take k):=Or.inr ⟨g,0,rfl,by have:=L.size;omega,(((HS.out.below (by omega) L3).take k).below hg3 L)⟩
       have:=hv.src
       rwa [htl] at this
      have HVR:Hid (∀w',Below w3.heap.size w3 w'->ZV w' 2 (some ⟨gr,0,none⟩) (hs.length-k) (Zm (hs.drop k))):=fun w' L=>by
       have:=((hrest.view).next L).src
       rwa [hdl] at this
      have hk1:(k:Int)<=(c:Int):=by omega
      have hk2:(k:Int)<=(hs.length:Int):=by omega
      have hk3:(0:Int)<=(k:Int):=by omega
      have hk4:k<=c:=by omega
      have hk5:¬c=0:=by omega
      clear hownr hgrowr hatr hltr HSRC LA HVG hd0 hd1 LF c0 c1
      go_region_held3 (fun w'=>(w'.cell? ⟨w.heap.size,0,none⟩=some (.int .i64 x.1)/\w'.cell? ⟨w.heap.size,1,none⟩=some (.int .i64 x.2))/\Below w3.heap.size w3 w')
       (first
         | exact⟨⟨e0,e1⟩,(Below.refl _ _).drew⟩
         | exact Zbt.grown ⟨⟨f0,f1⟩,LwB⟩ hq3 hgC hBB
         | exact Zbt.of hq3 e0 e1 LwB
         | exact Zbt.of hq3 e0 e1 (LwA.alloc (by omega) _)
         | exact Zbt.of hq3 e0 e1 LwA
         | exact Zbt.of hq3 e0 e1 ((Below.refl _ _).alloc (Nat.le_refl _) _).drew
         | exact Zbt.of hq3 e0 e1 (((Below.refl _ _).alloc (Nat.le_refl _) _).alloc (by simp) _).drew)
       (first
         | (refine Zi _ (by rfl) (.tmp 27) (.tmp 30) 36 (by rfl) w.heap.size 66 j0 _ 2 16 Tryz.underlying36 hj0 hy0 hy1 hy2 rfl (by omega) w3.heap.size 0 0 [] (by rfl) (World.ownsRow.drew (World.ownsRow_lit w3 #[] 0 (by omega) (Nat.zero_le _) rfl)) (some ⟨g,0,none⟩) k c (Zm (hs.take k)) (by rfl) (HVT.out _ ((Below.refl _ _).alloc (Nat.le_refl _) _).drew) (by unfold maxLen;omega) (by omega) (by simp;omega) (w3.heap.size+1) (by simp) ?_;intro gA cA wA hoA hgA haA hlA;rw [Nat.zero_add];have LwA:Below w3.heap.size w3 wA:=((Below.refl _ _).alloc (Nat.le_refl _) _).drew.grown hgA (by simp) (by intro q hq;cases hq;exact Nat.le_refl _);have hA:w3.heap.size<=gA:=(by omega);have hoA2:wA.ownsRow w.heap.size 66 2 (.slice (some ⟨gA,0,none⟩) k cA) k (Zm (hs.take k)):=(by simpa using hoA))
         | (refine Zi _ (by rfl) (.tmp 27) (.tmp 30) 36 (by rfl) w.heap.size 66 j0 _ 2 16 Tryz.underlying36 hj0 hy0 hy1 hy2 rfl (by omega) w3.heap.size 0 0 [] (by rfl) (World.ownsRow.drew (World.ownsRow.alloc (World.ownsRow_lit w3 #[] 0 (by omega) (Nat.zero_le _) rfl) _)) (some ⟨g,0,none⟩) k c (Zm (hs.take k)) (by rfl) (HVT.out _ (((Below.refl _ _).alloc (Nat.le_refl _) _).alloc (by simp) _).drew) (by unfold maxLen;omega) (by omega) (by simp;omega) (w3.heap.size+1+1) (by simp) ?_;intro gA cA wA hoA hgA haA hlA;rw [Nat.zero_add];have LwA:Below w3.heap.size w3 wA:=(((Below.refl _ _).alloc (Nat.le_refl _) _).alloc (by simp) _).drew.grown hgA (by simp;omega) (by intro q hq;cases hq;exact Nat.le_refl _);have hA:w3.heap.size<=gA:=(by omega);have hoA2:wA.ownsRow w.heap.size 66 2 (.slice (some ⟨gA,0,none⟩) k cA) k (Zm (hs.take k)):=(by simpa using hoA);have hX:wA.heap[w3.heap.size+1]? =some (.cells #[.int .i64 x.1,.int .i64 x.2] 66 (0,0)):=ZeM hgA)
         | (refine Zi _ (by rfl) (.tmp 27) (.tmp 30) 36 (by rfl) w.heap.size 66 j0 _ 2 16 Tryz.underlying36 hj0 hy0 hy1 hy2 rfl (by omega) (w3.heap.size+1) 0 0 [] (by rfl) (ZeO w3 _ (by omega)) (some ⟨g,0,none⟩) k c (Zm (hs.take k)) (by rfl) (HVT.out _ (((Below.refl _ _).alloc (Nat.le_refl _) _).alloc (by simp) _).drew) (by unfold maxLen;omega) (by omega) (by simp;omega) (w3.heap.size+1+1) (by simp) ?_;intro gA cA wA hoA hgA haA hlA;rw [Nat.zero_add];have LwA:Below w3.heap.size w3 wA:=(((Below.refl _ _).alloc (Nat.le_refl _) _).alloc (by simp) _).drew.grown hgA (by simp;omega) (by intro q hq;cases hq;omega);have hA:w3.heap.size<=gA:=(by omega);have hoA2:wA.ownsRow w.heap.size 66 2 (.slice (some ⟨gA,0,none⟩) k cA) k (Zm (hs.take k)):=(by simpa using hoA);have hX:wA.heap[w3.heap.size]? =some (.cells #[.int .i64 x.1,.int .i64 x.2] 66 (0,0)):=ZeN hgA)
         | (refine Zi _ (by rfl) (.tmp 31) (.tmp 33) 36 (by rfl) w.heap.size 66 j0 _ 2 16 Tryz.underlying36 hj0 hy0 hy1 hy2 rfl (by omega) gA k cA (Zm (hs.take k)) (by rfl) hoA2 (some ⟨_,0,none⟩) 1 1 (Zm [x]) (by rfl) (ZbV hX) (by unfold maxLen;omega) (by omega) (by have:=LwA.size;omega) wA.heap.size (by rfl) ?_;intro gB cB wB hoB hgB haB hlB;have LwB:Below w3.heap.size w3 wB:=LwA.grown hgB LwA.size (by intro q hq;cases hq;exact hA);have hBB:w3.heap.size<=gB:=(by have:=LwA.size;omega);have hoB2:wB.ownsRow w.heap.size 66 2 (.slice (some ⟨gB,0,none⟩) (k+1) cB) (k+1) (Zm (hs.take k)++Zm [x]):=hoB)
         | (refine Zi _ (by rfl) (.tmp 31) (.tmp 33) 36 (by rfl) w.heap.size 66 j0 _ 2 16 Tryz.underlying36 hj0 hy0 hy1 hy2 rfl (by omega) gA k cA (Zm (hs.take k)) (by rfl) (World.ownsRow.alloc hoA2 _) (some ⟨wA.heap.size,0,none⟩) 1 1 (Zm [x]) (by rfl) (ZbV (heap_alloc_new wA _)) (by unfold maxLen;omega) (by omega) (by have:=LwA.size;simp;omega) (wA.heap.size+1) (by simp) ?_;intro gB cB wB hoB hgB haB hlB;have LwB:Below w3.heap.size w3 wB:=(LwA.alloc LwA.size _).grown hgB (by have:=LwA.size;simp;omega) (by intro q hq;cases hq;exact hA);have hBB:w3.heap.size<=gB:=(by have:=LwA.size;omega);have hoB2:wB.ownsRow w.heap.size 66 2 (.slice (some ⟨gB,0,none⟩) (k+1) cB) (k+1) (Zm (hs.take k)++Zm [x]):=hoB)
         | (refine Zi _ (by rfl) (.tmp 34) (.tmp 35) 36 (by rfl) w.heap.size 66 j0 _ 2 16 Tryz.underlying36 hj0 hy0 hy1 hy2 rfl (by omega) gB (k+1) cB (Zm (hs.take k)++Zm [x]) (by rfl) hoB2 (some ⟨gr,0,none⟩) (hs.length-k) cr (Zm (hs.drop k)) (by rfl) (HVR.out _ LwB) (by unfold maxLen;omega) (by omega) (by have:=LwB.size;omega) wB.heap.size (by rfl) ?_;intro gC cC wC hoC hgC haC hlC;have f0:=(LwB.cell (p:=⟨w.heap.size,0,none⟩) hq3).trans e0;have f1:=(LwB.cell (p:=⟨w.heap.size,1,none⟩) hq3).trans e1))
      all_goals
       have hlen:k+1+(hs.length-k)=(ZbR hs x).length:=by rw [ZcY];omega
       go_wp2
       go_ret
       refine⟨gC,cC,by rw [<-hlen];rfl,ZN.of hoC hlen (by rw [HSP.out,Zal,Zal,List.append_assoc]),HLW.out.trans ((LwB.grown hgC LwB.size (by intro q hq;cases hq;exact hBB)).mono (by omega))⟩
  · obtain rfl:k=hs.length:=by omega
    have HSP:=Za (ZfE hs x hs.length hk HA.out (Or.inl rfl))
    have hgd:decide ((hs.length:Int)<(hs.length:Int))=false:=by simp
    have hi1:(hs.length:Int)<=(c:Int):=by omega
    go_wp2_with fail
    go_quiet (fail)
    have LF:=Za (below_drewN HLL.out nq)
    have hz2:=LF.out.size
    generalize wr.drewN nq=w2 at *
    by_cases hce:c=hs.length
    · subst hce
      by_cases hemp:hs=[]
      · subst hemp
        go_wp2_with fail
        have L3:Below W0.heap.size W0 (w2.alloc (.cells #[] 66)):=LF.out.alloc hz2 _
        have hrest:ZN w.heap.size (w2.alloc (.cells #[] 66)) w2.heap.size 0 []:=ZN.start w2 _ (by omega)
        generalize w2.alloc (.cells #[] 66)=w3 at *
        generalize w2.heap.size=gr at *
        have hq3:w.heap.size<w3.heap.size:=by have:=L3.size;omega
        have e0:=(L3.cell (p:=⟨w.heap.size,0,none⟩) (by simp;omega)).trans c0
        have e1:=(L3.cell (p:=⟨w.heap.size,1,none⟩) (by simp;omega)).trans c1
        have HLW:=Za (HL0.out.trans (L3.mono HL0.out.size))
        have hg3:g<w3.heap.size:=by omega
        have HVT:Hid (∀w',Below w3.heap.size w3 w'->ZV w' 2 (some ⟨g,0,none⟩) 0 (Zm [])):=fun w' L=>by
         have hv:Za3 w' (some ⟨g,0,none⟩) []:=Or.inr ⟨g,0,rfl,by have:=L.size;omega,((HS.out.below (by omega) L3).below hg3 L)⟩
         exact hv.src
        have HVR:Hid (∀w',Below w3.heap.size w3 w'->ZV w' 2 (some ⟨gr,0,none⟩) 0 (Zm [])):=fun w' L=>((hrest.view).next L).src
        have hk1:(0:Int)<=(0:Int):=by omega
        have hk3:(0:Int)<=(0:Int):=by omega
        clear hd0 hd1 LF c0 c1
        go_region_held3 (fun w'=>(w'.cell? ⟨w.heap.size,0,none⟩=some (.int .i64 x.1)/\w'.cell? ⟨w.heap.size,1,none⟩=some (.int .i64 x.2))/\Below w3.heap.size w3 w')
         (first
           | exact⟨⟨e0,e1⟩,(Below.refl _ _).drew⟩
           | exact Zbt.grown ⟨⟨f0,f1⟩,LwB⟩ hq3 hgC hBB
           | exact Zbt.of hq3 e0 e1 LwB
           | exact Zbt.of hq3 e0 e1 (LwA.alloc (by omega) _)
           | exact Zbt.of hq3 e0 e1 LwA
           | exact Zbt.of hq3 e0 e1 ((Below.refl _ _).alloc (Nat.le_refl _) _).drew
           | exact Zbt.of hq3 e0 e1 (((Below.refl _ _).alloc (Nat.le_refl _) _).alloc (by simp) _).drew)
         (first
           | (refine Zi _ (by rfl) (.tmp 27) (.tmp 30) 36 (by rfl) w.heap.size 66 j0 _ 2 16 Tryz.underlying36 hj0 hy0 hy1 hy2 rfl (by omega) w3.heap.size 0 0 [] (by rfl) (World.ownsRow.drew (World.ownsRow_lit w3 #[] 0 (by omega) (Nat.zero_le _) rfl)) (some ⟨g,0,none⟩) 0 0 (Zm []) (by rfl) (HVT.out _ ((Below.refl _ _).alloc (Nat.le_refl _) _).drew) (by unfold maxLen;omega) (by omega) (by simp;omega) (w3.heap.size+1) (by simp) ?_;intro gA cA wA hoA hgA haA hlA;try rw [Nat.zero_add];have LwA:Below w3.heap.size w3 wA:=((Below.refl _ _).alloc (Nat.le_refl _) _).drew.grown hgA (by simp) (by intro q hq;cases hq;exact Nat.le_refl _);have hA:w3.heap.size<=gA:=(by omega);have hoA2:wA.ownsRow w.heap.size 66 2 (.slice (some ⟨gA,0,none⟩) 0 cA) 0 (Zm []):=(by simpa using hoA))
           | (refine Zi _ (by rfl) (.tmp 27) (.tmp 30) 36 (by rfl) w.heap.size 66 j0 _ 2 16 Tryz.underlying36 hj0 hy0 hy1 hy2 rfl (by omega) w3.heap.size 0 0 [] (by rfl) (World.ownsRow.drew (World.ownsRow.alloc (World.ownsRow_lit w3 #[] 0 (by omega) (Nat.zero_le _) rfl) _)) (some ⟨g,0,none⟩) 0 0 (Zm []) (by rfl) (HVT.out _ (((Below.refl _ _).alloc (Nat.le_refl _) _).alloc (by simp) _).drew) (by unfold maxLen;omega) (by omega) (by simp;omega) (w3.heap.size+1+1) (by simp) ?_;intro gA cA wA hoA hgA haA hlA;try rw [Nat.zero_add];have LwA:Below w3.heap.size w3 wA:=(((Below.refl _ _).alloc (Nat.le_refl _) _).alloc (by simp) _).drew.grown hgA (by simp;omega) (by intro q hq;cases hq;exact Nat.le_refl _);have hA:w3.heap.size<=gA:=(by omega);have hoA2:wA.ownsRow w.heap.size 66 2 (.slice (some ⟨gA,0,none⟩) 0 cA) 0 (Zm []):=(by simpa using hoA);have hX:wA.heap[w3.heap.size+1]? =some (.cells #[.int .i64 x.1,.int .i64 x.2] 66 (0,0)):=ZeM hgA)
           | (refine Zi _ (by rfl) (.tmp 27) (.tmp 30) 36 (by rfl) w.heap.size 66 j0 _ 2 16 Tryz.underlying36 hj0 hy0 hy1 hy2 rfl (by omega) (w3.heap.size+1) 0 0 [] (by rfl) (ZeO w3 _ (by omega)) (some ⟨g,0,none⟩) 0 0 (Zm []) (by rfl) (HVT.out _ (((Below.refl _ _).alloc (Nat.le_refl _) _).alloc (by simp) _).drew) (by unfold maxLen;omega) (by omega) (by simp;omega) (w3.heap.size+1+1) (by simp) ?_;intro gA cA wA hoA hgA haA hlA;try rw [Nat.zero_add];have LwA:Below w3.heap.size w3 wA:=(((Below.refl _ _).alloc (Nat.le_refl _) _).alloc (by simp) _).drew.grown hgA (by simp;omega) (by intro q hq;cases hq;omega);have hA:w3.heap.size<=gA:=(by omega);have hoA2:wA.ownsRow w.heap.size 66 2 (.slice (some ⟨gA,0,none⟩) 0 cA) 0 (Zm []):=(by simpa using hoA);have hX:wA.heap[w3.heap.size]? =some (.cells #[.int .i64 x.1,.int .i64 x.2] 66 (0,0)):=ZeN hgA)
           | (refine Zi _ (by rfl) (.tmp 31) (.tmp 33) 36 (by rfl) w.heap.size 66 j0 _ 2 16 Tryz.underlying36 hj0 hy0 hy1 hy2 rfl (by omega) gA 0 cA (Zm []) (by rfl) hoA2 (some ⟨_,0,none⟩) 1 1 (Zm [x]) (by rfl) (ZbV hX) (by unfold maxLen;omega) (by omega) (by have:=LwA.size;omega) wA.heap.size (by rfl) ?_;intro gB cB wB hoB hgB haB hlB;have LwB:Below w3.heap.size w3 wB:=LwA.grown hgB LwA.size (by intro q hq;cases hq;exact hA);have hBB:w3.heap.size<=gB:=(by have:=LwA.size;omega);have hoB2:wB.ownsRow w.heap.size 66 2 (.slice (some ⟨gB,0,none⟩) (0+1) cB) (0+1) (Zm ([])++Zm [x]):=hoB)
           | (refine Zi _ (by rfl) (.tmp 31) (.tmp 33) 36 (by rfl) w.heap.size 66 j0 _ 2 16 Tryz.underlying36 hj0 hy0 hy1 hy2 rfl (by omega) gA 0 cA (Zm []) (by rfl) (World.ownsRow.alloc hoA2 _) (some ⟨wA.heap.size,0,none⟩) 1 1 (Zm [x]) (by rfl) (ZbV (heap_alloc_new wA _)) (by unfold maxLen;omega) (by omega) (by have:=LwA.size;simp;omega) (wA.heap.size+1) (by simp) ?_;intro gB cB wB hoB hgB haB hlB;have LwB:Below w3.heap.size w3 wB:=(LwA.alloc LwA.size _).grown hgB (by have:=LwA.size;simp;omega) (by intro q hq;cases hq;exact hA);have hBB:w3.heap.size<=gB:=(by have:=LwA.size;omega);have hoB2:wB.ownsRow w.heap.size 66 2 (.slice (some ⟨gB,0,none⟩) (0+1) cB) (0+1) (Zm ([])++Zm [x]):=hoB)
           | (refine Zi _ (by rfl) (.tmp 34) (.tmp 35) 36 (by rfl) w.heap.size 66 j0 _ 2 16 Tryz.underlying36 hj0 hy0 hy1 hy2 rfl (by omega) gB (0+1) cB (Zm ([])++Zm [x]) (by rfl) hoB2 (some ⟨gr,0,none⟩) 0 0 (Zm ([])) (by rfl) (HVR.out _ LwB) (by unfold maxLen;omega) (by omega) (by have:=LwB.size;omega) wB.heap.size (by rfl) ?_;intro gC cC wC hoC hgC haC hlC;have f0:=(LwB.cell (p:=⟨w.heap.size,0,none⟩) hq3).trans e0;have f1:=(LwB.cell (p:=⟨w.heap.size,1,none⟩) hq3).trans e1))
        all_goals
         have hlen:0+1+0=(ZbR [] x).length:=rfl
         go_wp2
         go_ret
         refine⟨gC,cC,by rw [<-hlen] <;> rfl,ZN.of hoC hlen rfl,HLW.out.trans ((LwB.grown hgC LwB.size (by intro q hq;cases hq;exact hBB)).mono (by omega))⟩
      · have hk5:¬hs.length=0:=by simpa using hemp
        go_wp2_with fail
        have L3:Below W0.heap.size W0 (w2.alloc (.cells #[] 66)):=LF.out.alloc hz2 _
        have hrest:ZN w.heap.size (w2.alloc (.cells #[] 66)) w2.heap.size 0 []:=ZN.start w2 _ (by omega)
        generalize w2.alloc (.cells #[] 66)=w3 at *
        generalize w2.heap.size=gr at *
        have hq3:w.heap.size<w3.heap.size:=by have:=L3.size;omega
        have e0:=(L3.cell (p:=⟨w.heap.size,0,none⟩) (by simp;omega)).trans c0
        have e1:=(L3.cell (p:=⟨w.heap.size,1,none⟩) (by simp;omega)).trans c1
        have HLW:=Za (HL0.out.trans (L3.mono HL0.out.size))
        have hg3:g<w3.heap.size:=by omega
        have HVT:Hid (∀w',Below w3.heap.size w3 w'->ZV w' 2 (some ⟨g,0,none⟩) hs.length (Zm hs)):=fun w' L=>by
         have hv:Za3 w' (some ⟨g,0,none⟩) hs:=Or.inr ⟨g,0,rfl,by have:=L.size;omega,((HS.out.below (by omega) L3).below hg3 L)⟩
         exact hv.src
        have HVR:Hid (∀w',Below w3.heap.size w3 w'->ZV w' 2 (some ⟨gr,0,none⟩) 0 (Zm [])):=fun w' L=>((hrest.view).next L).src
        have hk1:(hs.length:Int)<=(hs.length:Int):=by omega
        have hk3:(0:Int)<=(hs.length:Int):=by omega
        clear hd0 hd1 LF c0 c1
        go_region_held3 (fun w'=>(w'.cell? ⟨w.heap.size,0,none⟩=some (.int .i64 x.1)/\w'.cell? ⟨w.heap.size,1,none⟩=some (.int .i64 x.2))/\Below w3.heap.size w3 w')
         (first
           | exact⟨⟨e0,e1⟩,(Below.refl _ _).drew⟩
           | exact Zbt.grown ⟨⟨f0,f1⟩,LwB⟩ hq3 hgC hBB
           | exact Zbt.of hq3 e0 e1 LwB
           | exact Zbt.of hq3 e0 e1 (LwA.alloc (by omega) _)
           | exact Zbt.of hq3 e0 e1 LwA
           | exact Zbt.of hq3 e0 e1 ((Below.refl _ _).alloc (Nat.le_refl _) _).drew
           | exact Zbt.of hq3 e0 e1 (((Below.refl _ _).alloc (Nat.le_refl _) _).alloc (by simp) _).drew)
         (first
           | (refine Zi _ (by rfl) (.tmp 27) (.tmp 30) 36 (by rfl) w.heap.size 66 j0 _ 2 16 Tryz.underlying36 hj0 hy0 hy1 hy2 rfl (by omega) w3.heap.size 0 0 [] (by rfl) (World.ownsRow.drew (World.ownsRow_lit w3 #[] 0 (by omega) (Nat.zero_le _) rfl)) (some ⟨g,0,none⟩) hs.length hs.length (Zm hs) (by rfl) (HVT.out _ ((Below.refl _ _).alloc (Nat.le_refl _) _).drew) (by unfold maxLen;omega) (by omega) (by simp;omega) (w3.heap.size+1) (by simp) ?_;intro gA cA wA hoA hgA haA hlA;try rw [Nat.zero_add];have LwA:Below w3.heap.size w3 wA:=((Below.refl _ _).alloc (Nat.le_refl _) _).drew.grown hgA (by simp) (by intro q hq;cases hq;exact Nat.le_refl _);have hA:w3.heap.size<=gA:=(by omega);have hoA2:wA.ownsRow w.heap.size 66 2 (.slice (some ⟨gA,0,none⟩) hs.length cA) hs.length (Zm hs):=(by simpa using hoA))
           | (refine Zi _ (by rfl) (.tmp 27) (.tmp 30) 36 (by rfl) w.heap.size 66 j0 _ 2 16 Tryz.underlying36 hj0 hy0 hy1 hy2 rfl (by omega) w3.heap.size 0 0 [] (by rfl) (World.ownsRow.drew (World.ownsRow.alloc (World.ownsRow_lit w3 #[] 0 (by omega) (Nat.zero_le _) rfl) _)) (some ⟨g,0,none⟩) hs.length hs.length (Zm hs) (by rfl) (HVT.out _ (((Below.refl _ _).alloc (Nat.le_refl _) _).alloc (by simp) _).drew) (by unfold maxLen;omega) (by omega) (by simp;omega) (w3.heap.size+1+1) (by simp) ?_;intro gA cA wA hoA hgA haA hlA;try rw [Nat.zero_add];have LwA:Below w3.heap.size w3 wA:=(((Below.refl _ _).alloc (Nat.le_refl _) _).alloc (by simp) _).drew.grown hgA (by simp;omega) (by intro q hq;cases hq;exact Nat.le_refl _);have hA:w3.heap.size<=gA:=(by omega);have hoA2:wA.ownsRow w.heap.size 66 2 (.slice (some ⟨gA,0,none⟩) hs.length cA) hs.length (Zm hs):=(by simpa using hoA);have hX:wA.heap[w3.heap.size+1]? =some (.cells #[.int .i64 x.1,.int .i64 x.2] 66 (0,0)):=ZeM hgA)
           | (refine Zi _ (by rfl) (.tmp 27) (.tmp 30) 36 (by rfl) w.heap.size 66 j0 _ 2 16 Tryz.underlying36 hj0 hy0 hy1 hy2 rfl (by omega) (w3.heap.size+1) 0 0 [] (by rfl) (ZeO w3 _ (by omega)) (some ⟨g,0,none⟩) hs.length hs.length (Zm hs) (by rfl) (HVT.out _ (((Below.refl _ _).alloc (Nat.le_refl _) _).alloc (by simp) _).drew) (by unfold maxLen;omega) (by omega) (by simp;omega) (w3.heap.size+1+1) (by simp) ?_;intro gA cA wA hoA hgA haA hlA;try rw [Nat.zero_add];have LwA:Below w3.heap.size w3 wA:=(((Below.refl _ _).alloc (Nat.le_refl _) _).alloc (by simp) _).drew.grown hgA (by simp;omega) (by intro q hq;cases hq;omega);have hA:w3.heap.size<=gA:=(by omega);have hoA2:wA.ownsRow w.heap.size 66 2 (.slice (some ⟨gA,0,none⟩) hs.length cA) hs.length (Zm hs):=(by simpa using hoA);have hX:wA.heap[w3.heap.size]? =some (.cells #[.int .i64 x.1,.int .i64 x.2] 66 (0,0)):=ZeN hgA)
           | (refine Zi _ (by rfl) (.tmp 31) (.tmp 33) 36 (by rfl) w.heap.size 66 j0 _ 2 16 Tryz.underlying36 hj0 hy0 hy1 hy2 rfl (by omega) gA hs.length cA (Zm hs) (by rfl) hoA2 (some ⟨_,0,none⟩) 1 1 (Zm [x]) (by rfl) (ZbV hX) (by unfold maxLen;omega) (by omega) (by have:=LwA.size;omega) wA.heap.size (by rfl) ?_;intro gB cB wB hoB hgB haB hlB;have LwB:Below w3.heap.size w3 wB:=LwA.grown hgB LwA.size (by intro q hq;cases hq;exact hA);have hBB:w3.heap.size<=gB:=(by have:=LwA.size;omega);have hoB2:wB.ownsRow w.heap.size 66 2 (.slice (some ⟨gB,0,none⟩) (hs.length+1) cB) (hs.length+1) (Zm (hs)++Zm [x]):=hoB)
           | (refine Zi _ (by rfl) (.tmp 31) (.tmp 33) 36 (by rfl) w.heap.size 66 j0 _ 2 16 Tryz.underlying36 hj0 hy0 hy1 hy2 rfl (by omega) gA hs.length cA (Zm hs) (by rfl) (World.ownsRow.alloc hoA2 _) (some ⟨wA.heap.size,0,none⟩) 1 1 (Zm [x]) (by rfl) (ZbV (heap_alloc_new wA _)) (by unfold maxLen;omega) (by omega) (by have:=LwA.size;simp;omega) (wA.heap.size+1) (by simp) ?_;intro gB cB wB hoB hgB haB hlB;have LwB:Below w3.heap.size w3 wB:=(LwA.alloc LwA.size _).grown hgB (by have:=LwA.size;simp;omega) (by intro q hq;cases hq;exact hA);have hBB:w3.heap.size<=gB:=(by have:=LwA.size;omega);have hoB2:wB.ownsRow w.heap.size 66 2 (.slice (some ⟨gB,0,none⟩) (hs.length+1) cB) (hs.length+1) (Zm (hs)++Zm [x]):=hoB)
           | (refine Zi _ (by rfl) (.tmp 34) (.tmp 35) 36 (by rfl) w.heap.size 66 j0 _ 2 16 Tryz.underlying36 hj0 hy0 hy1 hy2 rfl (by omega) gB (hs.length+1) cB (Zm (hs)++Zm [x]) (by rfl) hoB2 (some ⟨gr,0,none⟩) 0 0 (Zm ([])) (by rfl) (HVR.out _ LwB) (by unfold maxLen;omega) (by omega) (by have:=LwB.size;omega) wB.heap.size (by rfl) ?_;intro gC cC wC hoC hgC haC hlC;have f0:=(LwB.cell (p:=⟨w.heap.size,0,none⟩) hq3).trans e0;have f1:=(LwB.cell (p:=⟨w.heap.size,1,none⟩) hq3).trans e1))
        all_goals
         have hlen:hs.length+1+0=(ZbR hs x).length:=by rw [ZcY]
         go_wp2
         go_ret
         refine⟨gC,cC,by rw [<-hlen] <;> rfl,ZN.of hoC hlen (by rw [HSP.out,List.take_length,List.drop_length,Zal,Zal,List.append_assoc]),HLW.out.trans ((LwB.grown hgC LwB.size (by intro q hq;cases hq;exact hBB)).mono (by omega))⟩
    · have hk5:¬c=0:=by omega
      go_wp2_with fail
      have L3:Below W0.heap.size W0 (w2.alloc (.cells #[] 66)):=LF.out.alloc hz2 _
      have hrest:ZN w.heap.size (w2.alloc (.cells #[] 66)) w2.heap.size 0 []:=ZN.start w2 _ (by omega)
      generalize w2.alloc (.cells #[] 66)=w3 at *
      generalize w2.heap.size=gr at *
      have hq3:w.heap.size<w3.heap.size:=by have:=L3.size;omega
      have e0:=(L3.cell (p:=⟨w.heap.size,0,none⟩) (by simp;omega)).trans c0
      have e1:=(L3.cell (p:=⟨w.heap.size,1,none⟩) (by simp;omega)).trans c1
      have HLW:=Za (HL0.out.trans (L3.mono HL0.out.size))
      have hg3:g<w3.heap.size:=by omega
      have HVT:Hid (∀w',Below w3.heap.size w3 w'->ZV w' 2 (some ⟨g,0,none⟩) hs.length (Zm hs)):=fun w' L=>by
       have hv:Za3 w' (some ⟨g,0,none⟩) hs:=Or.inr ⟨g,0,rfl,by have:=L.size;omega,((HS.out.below (by omega) L3).below hg3 L)⟩
       exact hv.src
      have HVR:Hid (∀w',Below w3.heap.size w3 w'->ZV w' 2 (some ⟨gr,0,none⟩) 0 (Zm [])):=fun w' L=>((hrest.view).next L).src
      have hk1:(hs.length:Int)<=(c:Int):=by omega
      have hk3:(0:Int)<=(hs.length:Int):=by omega
      clear hd0 hd1 LF c0 c1
      go_region_held3 (fun w'=>(w'.cell? ⟨w.heap.size,0,none⟩=some (.int .i64 x.1)/\w'.cell? ⟨w.heap.size,1,none⟩=some (.int .i64 x.2))/\Below w3.heap.size w3 w')
       (first
         | exact⟨⟨e0,e1⟩,(Below.refl _ _).drew⟩
         | exact Zbt.grown ⟨⟨f0,f1⟩,LwB⟩ hq3 hgC hBB
         | exact Zbt.of hq3 e0 e1 LwB
         | exact Zbt.of hq3 e0 e1 (LwA.alloc (by omega) _)
         | exact Zbt.of hq3 e0 e1 LwA
         | exact Zbt.of hq3 e0 e1 ((Below.refl _ _).alloc (Nat.le_refl _) _).drew
         | exact Zbt.of hq3 e0 e1 (((Below.refl _ _).alloc (Nat.le_refl _) _).alloc (by simp) _).drew)
       (first
         | (refine Zi _ (by rfl) (.tmp 27) (.tmp 30) 36 (by rfl) w.heap.size 66 j0 _ 2 16 Tryz.underlying36 hj0 hy0 hy1 hy2 rfl (by omega) w3.heap.size 0 0 [] (by rfl) (World.ownsRow.drew (World.ownsRow_lit w3 #[] 0 (by omega) (Nat.zero_le _) rfl)) (some ⟨g,0,none⟩) hs.length c (Zm hs) (by rfl) (HVT.out _ ((Below.refl _ _).alloc (Nat.le_refl _) _).drew) (by unfold maxLen;omega) (by omega) (by simp;omega) (w3.heap.size+1) (by simp) ?_;intro gA cA wA hoA hgA haA hlA;try rw [Nat.zero_add];have LwA:Below w3.heap.size w3 wA:=((Below.refl _ _).alloc (Nat.le_refl _) _).drew.grown hgA (by simp) (by intro q hq;cases hq;exact Nat.le_refl _);have hA:w3.heap.size<=gA:=(by omega);have hoA2:wA.ownsRow w.heap.size 66 2 (.slice (some ⟨gA,0,none⟩) hs.length cA) hs.length (Zm hs):=(by simpa using hoA))
         | (refine Zi _ (by rfl) (.tmp 27) (.tmp 30) 36 (by rfl) w.heap.size 66 j0 _ 2 16 Tryz.underlying36 hj0 hy0 hy1 hy2 rfl (by omega) w3.heap.size 0 0 [] (by rfl) (World.ownsRow.drew (World.ownsRow.alloc (World.ownsRow_lit w3 #[] 0 (by omega) (Nat.zero_le _) rfl) _)) (some ⟨g,0,none⟩) hs.length c (Zm hs) (by rfl) (HVT.out _ (((Below.refl _ _).alloc (Nat.le_refl _) _).alloc (by simp) _).drew) (by unfold maxLen;omega) (by omega) (by simp;omega) (w3.heap.size+1+1) (by simp) ?_;intro gA cA wA hoA hgA haA hlA;try rw [Nat.zero_add];have LwA:Below w3.heap.size w3 wA:=(((Below.refl _ _).alloc (Nat.le_refl _) _).alloc (by simp) _).drew.grown hgA (by simp;omega) (by intro q hq;cases hq;exact Nat.le_refl _);have hA:w3.heap.size<=gA:=(by omega);have hoA2:wA.ownsRow w.heap.size 66 2 (.slice (some ⟨gA,0,none⟩) hs.length cA) hs.length (Zm hs):=(by simpa using hoA);have hX:wA.heap[w3.heap.size+1]? =some (.cells #[.int .i64 x.1,.int .i64 x.2] 66 (0,0)):=ZeM hgA)
         | (refine Zi _ (by rfl) (.tmp 27) (.tmp 30) 36 (by rfl) w.heap.size 66 j0 _ 2 16 Tryz.underlying36 hj0 hy0 hy1 hy2 rfl (by omega) (w3.heap.size+1) 0 0 [] (by rfl) (ZeO w3 _ (by omega)) (some ⟨g,0,none⟩) hs.length c (Zm hs) (by rfl) (HVT.out _ (((Below.refl _ _).alloc (Nat.le_refl _) _).alloc (by simp) _).drew) (by unfold maxLen;omega) (by omega) (by simp;omega) (w3.heap.size+1+1) (by simp) ?_;intro gA cA wA hoA hgA haA hlA;try rw [Nat.zero_add];have LwA:Below w3.heap.size w3 wA:=(((Below.refl _ _).alloc (Nat.le_refl _) _).alloc (by simp) _).drew.grown hgA (by simp;omega) (by intro q hq;cases hq;omega);have hA:w3.heap.size<=gA:=(by omega);have hoA2:wA.ownsRow w.heap.size 66 2 (.slice (some ⟨gA,0,none⟩) hs.length cA) hs.length (Zm hs):=(by simpa using hoA);have hX:wA.heap[w3.heap.size]? =some (.cells #[.int .i64 x.1,.int .i64 x.2] 66 (0,0)):=ZeN hgA)
         | (refine Zi _ (by rfl) (.tmp 31) (.tmp 33) 36 (by rfl) w.heap.size 66 j0 _ 2 16 Tryz.underlying36 hj0 hy0 hy1 hy2 rfl (by omega) gA hs.length cA (Zm hs) (by rfl) hoA2 (some ⟨_,0,none⟩) 1 1 (Zm [x]) (by rfl) (ZbV hX) (by unfold maxLen;omega) (by omega) (by have:=LwA.size;omega) wA.heap.size (by rfl) ?_;intro gB cB wB hoB hgB haB hlB;have LwB:Below w3.heap.size w3 wB:=LwA.grown hgB LwA.size (by intro q hq;cases hq;exact hA);have hBB:w3.heap.size<=gB:=(by have:=LwA.size;omega);have hoB2:wB.ownsRow w.heap.size 66 2 (.slice (some ⟨gB,0,none⟩) (hs.length+1) cB) (hs.length+1) (Zm (hs)++Zm [x]):=hoB)
         | (refine Zi _ (by rfl) (.tmp 31) (.tmp 33) 36 (by rfl) w.heap.size 66 j0 _ 2 16 Tryz.underlying36 hj0 hy0 hy1 hy2 rfl (by omega) gA hs.length cA (Zm hs) (by rfl) (World.ownsRow.alloc hoA2 _) (some ⟨wA.heap.size,0,none⟩) 1 1 (Zm [x]) (by rfl) (ZbV (heap_alloc_new wA _)) (by unfold maxLen;omega) (by omega) (by have:=LwA.size;simp;omega) (wA.heap.size+1) (by simp) ?_;intro gB cB wB hoB hgB haB hlB;have LwB:Below w3.heap.size w3 wB:=(LwA.alloc LwA.size _).grown hgB (by have:=LwA.size;simp;omega) (by intro q hq;cases hq;exact hA);have hBB:w3.heap.size<=gB:=(by have:=LwA.size;omega);have hoB2:wB.ownsRow w.heap.size 66 2 (.slice (some ⟨gB,0,none⟩) (hs.length+1) cB) (hs.length+1) (Zm (hs)++Zm [x]):=hoB)
         | (refine Zi _ (by rfl) (.tmp 34) (.tmp 35) 36 (by rfl) w.heap.size 66 j0 _ 2 16 Tryz.underlying36 hj0 hy0 hy1 hy2 rfl (by omega) gB (hs.length+1) cB (Zm (hs)++Zm [x]) (by rfl) hoB2 (some ⟨gr,0,none⟩) 0 0 (Zm ([])) (by rfl) (HVR.out _ LwB) (by unfold maxLen;omega) (by omega) (by have:=LwB.size;omega) wB.heap.size (by rfl) ?_;intro gC cC wC hoC hgC haC hlC;have f0:=(LwB.cell (p:=⟨w.heap.size,0,none⟩) hq3).trans e0;have f1:=(LwB.cell (p:=⟨w.heap.size,1,none⟩) hq3).trans e1))
      all_goals
       have hlen:hs.length+1+0=(ZbR hs x).length:=by rw [ZcY]
       go_wp2
       go_ret
       refine⟨gC,cC,by rw [<-hlen] <;> rfl,ZN.of hoC hlen (by rw [HSP.out,List.take_length,List.drop_length,Zal,Zal,List.append_assoc]),HLW.out.trans ((LwB.grown hgC LwB.size (by intro q hq;cases hq;exact hBB)).mono (by omega))⟩
abbrev Sm:=Int×Option Addr×Nat×List Int
def Zaj:List Sm->List Value
 | []=>[]
 | d::ds=>.int .i64 d.1::.slice d.2.1 d.2.2.2.length d.2.2.1::Zaj ds
def ZgP(d:Sm):Mk:=(d.1,d.2.2.2)
def Zbc(ds:List Sm):List Mk:=ds.map ZgP
def ZcW(ds:List Sm)(i:Nat):Sm:=ds.getD i (0,none,0,[])
def ZeG(base:Nat)(w:World)(g c:Nat)(ds:List Sm):Prop:=w.ownsRow base 29 2 (.slice (some ⟨g,0,none⟩) ds.length c) ds.length (Zaj ds)
def Zga(W:World)(ds:List Sm):Prop:=∀d∈ds,Zs W d.2.1 d.2.2.2
theorem Zc2(ds:List Sm):(Zaj ds).length=ds.length*2:=by
 induction ds with
 | nil=>rfl
 | cons d ds ih=>simp [Zaj,ih];omega
theorem ZfF(ds es:List Sm):Zaj (ds++es)=Zaj ds++Zaj es:=by
 induction ds with
 | nil=>rfl
 | cons d ds ih=>simp [Zaj,ih]
theorem ZfG(ds:List Sm)(i:Nat)(h:i<ds.length):(Zaj ds)[i*2]? =some (.int .i64 (ZcW ds i).1)/\(Zaj ds)[i*2+1]? =some (.slice (ZcW ds i).2.1 (ZcW ds i).2.2.2.length (ZcW ds i).2.2.1):=by
 induction ds generalizing i with
 | nil=>simp at h
 | cons d ds ih=>
   match i,h with
   | 0,_=>exact⟨rfl,rfl⟩
   | k+1,h=>
     have:=ih k (by simpa using h)
     rw [show (k+1)*2=k*2+1+1 by omega]
     exact this
theorem ZeG.lt{base:Nat}{w:World}{g c:Nat}{ds:List Sm}(h:ZeG base w g c ds):base<=g/\g<w.heap.size:=World.ownsRow.lt h g rfl
theorem Zmp{ds:List Sm}{i:Nat}(h:i<ds.length):ZcW ds i∈ds:=by simp [ZcW,List.getD,h]
theorem ZfH(ds:List Sm):(Zbc ds).length=ds.length:=by simp [Zbc]
theorem Zi7(ds:List Sm)(i:Nat)(h:i<ds.length):ZH (Zbc ds) i=((ZcW ds i).1,(ZcW ds i).2.2.2):=by simp [ZH,Zbc,ZcW,List.getD,h,ZgP]
theorem ZeG.view{base:Nat}{W w:World}{g c:Nat}{ds:List Sm}(h:ZeG base w g c ds)(hs:Zga W ds)(hb:Below W.heap.size W w):Zq w (some ⟨g,0,none⟩) (Zbc ds):=by
 refine Or.inr ⟨g,0,rfl,h.lt.2,fun i hi=>?_⟩
 rw [ZfH] at hi
 rw [Zi7 ds i hi,Nat.zero_add]
 obtain⟨c0,c1⟩:=ZfG ds i hi
 refine⟨?_,(ZcW ds i).2.1,(ZcW ds i).2.2.1,?_,(hs _ (Zmp hi)).next hb⟩
 · rw [World.ownsRow.cellAt h _ (by omega)];exact c0
 · rw [World.ownsRow.cellAt h _ (by omega)];exact c1
theorem Zga.snoc{W:World}{ds:List Sm}{d:Sm}(h:Zga W ds)(hd:Zs W d.2.1 d.2.2.2):Zga W (ds++[d]):=fun x hx=>by
 rcases List.mem_append.1 hx with hx | hx
 · exact h x hx
 · simp at hx;subst hx;exact hd
theorem ZgQ(ds:List Sm)(d:Sm):Zbc (ds++[d])=Zbc ds++[(d.1,d.2.2.2)]:=by simp [Zbc,ZgP]
end Go.Proofs.YtaaagmgglolibaaGreat
