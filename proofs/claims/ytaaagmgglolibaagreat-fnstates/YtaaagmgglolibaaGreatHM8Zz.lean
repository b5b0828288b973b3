import Derived.Test.YtaaagmgglolibaaGreatHM5Zz
import Derived.Test.YtaaagmgglolibaaGreatCopyZz
import Derived.Test.YtaaagmgglolibaaGreatMCopyZz
import Derived.Test.YtaaagmgglolibaaGreatMHighZz
import Derived.Deep.RegionWith
set_option maxRecDepth 100000
set_option maxHeartbeats 2000000
namespace Go.Proofs.YtaaagmgglolibaaGreat
open Go Go.RowKit
theorem ZmU(base g c:Nat)(l:List Ht)(w:World)(h:ZN base w g c l)(hl:l.length<=1048576):
 Calls Tryz.prog 255 #[.slice (some ⟨g,0,none⟩) l.length c] w fun e w'=>e=.returned (.pointer (some ⟨w.heap.size,0,none⟩))/\∃l',HAt base w' w.heap.size g c l'/\w.grownBy w' (some g)/\l'.Perm l/\ZbN l' l'.length:=by
 have hB:=(Below.refl w.heap.size w).alloc (Nat.le_refl _) (.cells #[.slice (some ⟨g,0,none⟩) l.length c] 308)
 have hg:=h.lt.2
 have hA:HAt base (w.alloc (.cells #[.slice (some ⟨g,0,none⟩) l.length c] 308)) w.heap.size g c l:=⟨by omega,by unfold World.alloc;simp only [Array.getElem?_push_size],h.below (Nat.le_refl _) hB⟩
 have HI:=Za (iInit base w.heap.size g c l _ hA hl)
 have HB:=Za hB
 clear h hB hA
 go_enter Tryz.func255,Tryz.ntmps255
 go_wp2_with fail
 refine HI.out.mono ?_
 rintro e w2 ⟨rfl,l2,h2,hg2,hp2,hh2⟩
 go_wp2
 go_ret
 exact⟨rfl,l2,h2,⟨hg2.os,hg2.tape,hg2.output,Nat.le_trans HB.out.size hg2.size,fun i hi hne=>(hg2.block i (Nat.lt_of_lt_of_le hi HB.out.size) hne).trans (HB.out.block i hi)⟩,hp2,hh2⟩
theorem ZlG(ms:List Mk)(q:List Int)(k:Nat)(hk:k<ms.length):Zr (Z0 ms q) k=(mid ms k,ZaY (mat ms k) q):=by
 simp [Zr,Z0,hk,Zkb,mid,mat,List.getD]
theorem ZmV(ao ao':Option Addr)(cap cap':Nat)(ms:List Mk)(q:List Int)(w:World)(hv:Zq w ao ms)(hv':Zs w ao' q)(hsm:ZX ms)(hq:q.length<=1048576):
 Calls Tryz.prog 216 #[.slice ao ms.length cap,.slice ao' q.length cap'] w fun e w'=>∃p g l',e=.returned (.pointer (some ⟨p,0,none⟩))/\w.heap.size<=p/\HAt w.heap.size w' p g ms.length l'/\Below w.heap.size w w'/\l'.Perm (Z0 ms q)/\ZbN l' l'.length:=by
 obtain⟨hn,hat⟩:=hsm
 have hmk:=Zak (P:=Tryz.prog) 36 66 (.agg #[.int .i64 0,.int .i64 0]) 2 16 Tryz.underlying36 Tryz.info66 .i64 .i64 ms.length (by omega) (by omega)
 have R0:=Za (ZN.made w ms.length (by unfold maxLen;omega))
 have HLN:=Za (ZO ms q)
 rw [<-ZO ms q,<-ZiE,ZO ms q] at R0
 go_enter Tryz.func216,Tryz.ntmps216
 go_wp2
 clear hmk
 go_loopw [13] (fun i wr=>∃k:Nat,k<=ms.length/\i=.int .i64 k/\ZN w.heap.size wr w.heap.size ms.length (Zcs (Z0 ms q) k)/\Below w.heap.size w wr) (fun i _=>ms.length-(intOf i).toNat)
 case atStart=>exact⟨0,Nat.zero_le _,rfl,R0.out,(Below.refl _ _).alloc (Nat.le_refl _) _⟩
 case round=>
  clear R0
  obtain⟨k,hk,rfl,hr,L⟩:=hrel
  by_cases hlt:k<ms.length
  · obtain⟨b,off,rfl,hb,hseg⟩:=Zbi.seg hv (by omega)
    obtain⟨hc0,ae,ce,hc1,hve⟩:=(hseg.below hb (Nat.le_refl _) L).at hlt
    have hqw:=Zs.next hv' L
    have hi0:(0:Int)<=(k:Int):=Int.natCast_nonneg _
    have hi1:(k:Int)<(ms.length:Int):=by omega
    have hz:=L.size
    have hbw:b<wr.heap.size:=by omega
    have hB:=(Below.refl wr.heap.size wr).alloc (Nat.le_refl _) (.cells #[.int .i64 (mid ms k),.slice ae (mat ms k).length ce] 29)
    have HF:=Za (iFar ae ao' ce cap' (mat ms k) q (wr.alloc (.cells #[.int .i64 (mid ms k),.slice ae (mat ms k).length ce] 29)).drew (hve.next hB).drew (hqw.next hB).drew (hat k) hq)
    have hr1:=hr.below (Nat.le_refl _) hB
    have HR:=Za hr1
    have HL:=Za (L.trans (hB.mono hz))
    have hwl:=hr.lt.2
    have hfl:=ZgI (Z0 ms q) k (by rw [ZO];omega)
    rw [ZO] at hfl
    have HFL:=Za hfl
    have hk0:(wr.alloc (.cells #[.int .i64 (mid ms k),.slice ae (mat ms k).length ce] 29)).cell? ⟨wr.heap.size,0,none⟩=some (.int .i64 (mid ms k)):=by simp
    have hk1:(wr.alloc (.cells #[.int .i64 (mid ms k),.slice ae (mat ms k).length ce] 29)).cell? ⟨wr.heap.size,1,none⟩=some (.slice ae (mat ms k).length ce):=by simp
    obtain⟨W,hW⟩:∃W,W=wr.alloc (.cells #[.int .i64 (mid ms k),.slice ae (mat ms k).length ce] 29):=⟨_,rfl⟩
    obtain⟨e0,e1⟩:=HR.out.seg k (by omega)
    rw [Nat.zero_add] at e0 e1
    have f0:=World.ownsRow.frozenAt HR.out (k*2)
    have f1:=World.ownsRow.frozenAt HR.out (k*2+1)
    have hbl:w.heap.size<W.heap.size/\wr.heap.size<W.heap.size:=by rw [hW];simp;omega
    clear L hve hqw hseg hr hr1 hB hfl
    go_wp2_with fail
    rw [<-hW] at HF HR HL hk0 hk1 e0 e1 f0 f1 ⊢
    clear hW
    obtain⟨y,hy⟩:∃y,y=Zr (Zcs (Z0 ms q) k) k:=⟨_,rfl⟩
    rw [<-hy] at e0 e1
    clear hy
    have c0:∀w2,Below W.drew.heap.size W.drew w2->(w2.cell? ⟨wr.heap.size,0,none⟩=some (.int .i64 (mid ms k))/\w2.cell? ⟨wr.heap.size,1,none⟩=some (.slice ae (mat ms k).length ce))/\(w2.cell? ⟨w.heap.size,k*2,none⟩=some (.int .i64 y.1)/\w2.cell? ⟨w.heap.size,k*2+1,none⟩=some (.int .i64 y.2))/\(w2.frozen? ⟨w.heap.size,k*2,none⟩=false/\w2.frozen? ⟨w.heap.size,k*2+1,none⟩=false):=fun w2 L3=>
     ⟨⟨(L3.cell (p:=⟨wr.heap.size,0,none⟩) hbl.2).trans hk0,(L3.cell (p:=⟨wr.heap.size,1,none⟩) hbl.2).trans hk1⟩,⟨(L3.cell (p:=⟨w.heap.size,k*2,none⟩) hbl.1).trans e0,(L3.cell (p:=⟨w.heap.size,k*2+1,none⟩) hbl.1).trans e1⟩,⟨(ZdS (w:=W) hbl.1 (r:=none) ⟨L3.os,L3.tape,L3.output,L3.size,fun i hi _=>L3.block i hi⟩ (by simp)).trans f0,(ZdS (w:=W) hbl.1 (r:=none) ⟨L3.os,L3.tape,L3.output,L3.size,fun i hi _=>L3.block i hi⟩ (by simp)).trans f1⟩⟩
    have CC:=Za c0
    clear c0
    go_region_with (go_at_call 254;refine HF.out.mono ?_;rintro e w2 ⟨rfl,L3⟩;obtain⟨⟨k0,k1⟩,⟨k2,k3⟩,k4,k5⟩:=CC.out w2 L3)
    all_goals (
     have L4:Below W.heap.size W w2:=⟨L3.os,L3.tape,L3.output,L3.size,L3.block⟩
     have hr2:=(HR.out.below (Nat.le_refl _) L4).store k (mid ms k,ZaY (mat ms k) q)
     have e5:(Zcs (Z0 ms q) k).set k (mid ms k,ZaY (mat ms k) q)=Zcs (Z0 ms q) (k+1):=by
      rw [<-ZlG ms q k hlt];exact Zkc _ _ (by rw [ZO];exact hlt)
     rw [e5] at hr2
     have HS:=Za hr2
     have HL2:=Za (HL.out.trans (L4.mono HL.out.size))
     clear L3 L4 hr2 e5 HR k0 k1 k2 k3 k4 k5
     go_wp2_with fail
     go_roundw
     case rel=>exact⟨k+1,by omega,by go_num,HS.out,(HL2.out.setCell (by simp) _).setCell (by simp) _⟩
     case measure=>simp [intOf];omega)
  · clear hv hv'
    obtain rfl:k=ms.length:=by omega
    have hr2:=hr
    rw [<-ZO ms q,Zkd,ZO] at hr2
    have HH:=Za (ZmU w.heap.size w.heap.size ms.length (Z0 ms q) wr hr2 (by rw [ZO];exact hn))
    rw [ZO] at HH
    have HL:=Za L
    have HRL:=Za hr2.lt.2
    clear hr hr2 L
    go_wp2_with fail
    refine HH.out.mono ?_
    rintro e w2 ⟨rfl,l2,h2,hg2,hp2,hh2⟩
    go_wp2
    go_ret
    exact⟨_,_,l2,rfl,HL.out.size,h2,HL.out.grown hg2 HL.out.size (by intro k hk;cases hk;exact Nat.le_refl _),hp2,hh2⟩
end Go.Proofs.YtaaagmgglolibaaGreat
