import Derived.Test.YtilkaeclgmcolaaGreatHM5Zz
import Derived.Test.YtilkaeclgmcolaaGreatCopyZz
import Derived.Test.YtilkaeclgmcolaaGreatMCopyZz
import Derived.Test.YtilkaeclgmcolaaGreatMHighZz
import Derived.Deep.RegionWith
set_option maxRecDepth 100000
set_option maxHeartbeats 2000000
namespace Go.Proofs.YtilkaeclgmcolaaGreat
open Go Go.RowKit
theorem Zn7(base g c:Nat)(l:List Ht)(w:World)(h:ZT base w g c l)(hl:l.length<=1048576):
 Calls Tryz.prog 229 #[.slice (some ⟨g,0,none⟩) l.length c] w fun e w'=>e=.returned (.pointer (some ⟨w.heap.size,0,none⟩))/\∃l',HAt base w' w.heap.size g c l'/\w.grownBy w' (some g)/\l'.Perm l/\ZbQ l' l'.length:=by
 have j:=(Below.refl w.heap.size w).alloc (Nat.le_refl _) (.cells #[.slice (some ⟨g,0,none⟩) l.length c] 270)
 have r:=h.lt.2
 have n:HAt base (w.alloc (.cells #[.slice (some ⟨g,0,none⟩) l.length c] 270)) w.heap.size g c l:=⟨by omega,by unfold World.alloc;simp only [Array.getElem?_push_size],h.below (Nat.le_refl _) j⟩
 have o:=Za (iInit base w.heap.size g c l _ n hl)
 have d:=Za j
 clear h j n
 go_enter Tryz.func229,Tryz.ntmps229
 go_wp2_with fail
 refine o.out.mono ?_
 rintro e s ⟨rfl,q,p,a,f,k⟩
 go_wp2
 go_ret
 exact⟨rfl,q,p,⟨a.os,a.tape,a.output,Nat.le_trans d.out.size a.size,fun i m b=>(a.block i (Nat.lt_of_lt_of_le m d.out.size) b).trans (d.out.block i m)⟩,f,k⟩
theorem ZmJ(ms:List Mk)(q:List Int)(k:Nat)(hk:k<ms.length):Zx (Zae ms q) k=(mid ms k,Zbj (mat ms k) q):=by
 simp [Zx,Zae,hk,hitF,mid,mat,List.getD]
theorem Zn8(ao ao':Option Addr)(cap cap':Nat)(ms:List Mk)(q:List Int)(w:World)(hv:Zo w ao ms)(hv':Zy w ao' q)(hsm:ZL ms)(hq:q.length<=1048576):
 Calls Tryz.prog 214 #[.slice ao ms.length cap,.slice ao' q.length cap'] w fun e w'=>∃p g l',e=.returned (.pointer (some ⟨p,0,none⟩))/\w.heap.size<=p/\HAt w.heap.size w' p g ms.length l'/\Below w.heap.size w w'/\l'.Perm (Zae ms q)/\ZbQ l' l'.length:=by
 obtain⟨hn,K⟩:=hsm
 have N:=Zai (P:=Tryz.prog) 223 227 (.agg #[.int .i64 0,.int .i64 0]) 2 16 Tryz.underlying223 Tryz.info227 .i64 .i64 ms.length (by omega) (by omega)
 have G:=Za (ZT.made w ms.length (by unfold maxLen;omega))
 have Y:=Za (ZU ms q)
 rw [<-ZU ms q,<-Zjr,ZU ms q] at G
 go_enter Tryz.func214,Tryz.ntmps214
 go_wp2
 clear N
 go_loopw [13] (fun i wr=>∃k:Nat,k<=ms.length/\i=.int .i64 k/\ZT w.heap.size wr w.heap.size ms.length (ZcE (Zae ms q) k)/\Below w.heap.size w wr) (fun i _=>ms.length-(intOf i).toNat)
 case atStart=>exact⟨0,Nat.zero_le _,rfl,G.out,(Below.refl _ _).alloc (Nat.le_refl _) _⟩
 case round=>
  clear G
  obtain⟨k,V,rfl,x,L⟩:=hrel
  by_cases hlt:k<ms.length
  · obtain⟨b,ac,rfl,hb,j⟩:=ZaV.seg hv (by omega)
    obtain⟨a2,l,h,a1,t⟩:=(j.below hb (Nat.le_refl _) L).at hlt
    have z:=Zy.next hv' L
    have ai:=n0Z k
    have Z:(k:Int)<(ms.length:Int):=by omega
    have hz:=L.size
    have ad:b<wr.heap.size:=by omega
    have u:=(Below.refl wr.heap.size wr).alloc (Nat.le_refl _) (.cells #[.int .i64 (mid ms k),.slice l (mat ms k).length h] 161)
    have T:=Za (iFar l ao' h cap' (mat ms k) q (wr.alloc (.cells #[.int .i64 (mid ms k),.slice l (mat ms k).length h] 161)).drew (t.next u).drew (z.next u).drew (K k) hq)
    have A:=x.below (Nat.le_refl _) u
    have o:=Za A
    have n:=Za (L.trans (u.mono hz))
    have a4:=x.lt.2
    have m:=Zhg (Zae ms q) k (by rw [ZU];omega)
    rw [ZU] at m
    have af:=Za m
    have v:(wr.alloc (.cells #[.int .i64 (mid ms k),.slice l (mat ms k).length h] 161)).cell? ⟨wr.heap.size,0,none⟩=some (.int .i64 (mid ms k)):=by simp
    have s:(wr.alloc (.cells #[.int .i64 (mid ms k),.slice l (mat ms k).length h] 161)).cell? ⟨wr.heap.size,1,none⟩=some (.slice l (mat ms k).length h):=by simp
    obtain⟨W,M⟩:∃W,W=wr.alloc (.cells #[.int .i64 (mid ms k),.slice l (mat ms k).length h] 161):=⟨_,rfl⟩
    obtain⟨C,B⟩:=o.out.seg k (by omega)
    rw [Nat.zero_add] at C B
    have S:=World.ownsRow.frozenAt o.out (k*2)
    have U:=World.ownsRow.frozenAt o.out (k*2+1)
    have d:w.heap.size<W.heap.size/\wr.heap.size<W.heap.size:=by rw [M];simp;omega
    clear L t z j x A u m
    go_wp2_with fail
    rw [<-M] at T o n v s C B S U ⊢
    clear M
    obtain⟨y,Q⟩:∃y,y=Zx (ZcE (Zae ms q) k) k:=⟨_,rfl⟩
    rw [<-Q] at C B
    clear Q
    have c0:∀f,Below W.drew.heap.size W.drew f->(f.cell? ⟨wr.heap.size,0,none⟩=some (.int .i64 (mid ms k))/\f.cell? ⟨wr.heap.size,1,none⟩=some (.slice l (mat ms k).length h))/\(f.cell? ⟨w.heap.size,k*2,none⟩=some (.int .i64 y.1)/\f.cell? ⟨w.heap.size,k*2+1,none⟩=some (.int .i64 y.2))/\(f.frozen? ⟨w.heap.size,k*2,none⟩=false/\f.frozen? ⟨w.heap.size,k*2+1,none⟩=false):=fun f a=>
     ⟨⟨(a.cell (p:=⟨wr.heap.size,0,none⟩) d.2).trans v,(a.cell (p:=⟨wr.heap.size,1,none⟩) d.2).trans s⟩,⟨(a.cell (p:=⟨w.heap.size,k*2,none⟩) d.1).trans C,(a.cell (p:=⟨w.heap.size,k*2+1,none⟩) d.1).trans B⟩,⟨(Zb6 (w:=W) d.1 (r:=none) ⟨a.os,a.tape,a.output,a.size,fun i H _=>a.block i H⟩ (by simp)).trans S,(Zb6 (w:=W) d.1 (r:=none) ⟨a.os,a.tape,a.output,a.size,fun i H _=>a.block i H⟩ (by simp)).trans U⟩⟩
    have X:=Za c0
    clear c0
    go_region_with (go_at_call 228;refine T.out.mono ?_;rintro e f ⟨rfl,a⟩;obtain⟨⟨k0,k1⟩,⟨k2,k3⟩,k4,k5⟩:=X.out f a)
    all_goals (
     have F:Below W.heap.size W f:=⟨a.os,a.tape,a.output,a.size,a.block⟩
     have c:=(o.out.below (Nat.le_refl _) F).store k (mid ms k,Zbj (mat ms k) q)
     have O:(ZcE (Zae ms q) k).set k (mid ms k,Zbj (mat ms k) q)=ZcE (Zae ms q) (k+1):=by
      rw [<-ZmJ ms q k hlt];exact Zk2 _ _ (by rw [ZU];exact hlt)
     rw [O] at c
     have HS:=Za c
     have I:=Za (n.out.trans (F.mono n.out.size))
     clear a F c O o k0 k1 k2 k3 k4 k5
     go_wp2_with fail
     go_roundw
     case rel=>exact⟨k+1,by omega,by go_num,HS.out,(I.out.setCell (by simp) _).setCell (by simp) _⟩
     case measure=>simp [intOf];omega)
  · clear hv hv'
    obtain rfl:k=ms.length:=by omega
    have c:=x
    rw [<-ZU ms q,Zk3,ZU] at c
    have R:=Za (Zn7 w.heap.size w.heap.size ms.length (Zae ms q) wr c (by rw [ZU];exact hn))
    rw [ZU] at R
    have n:=Za L
    have a6:=Za c.lt.2
    clear x c L
    go_wp2_with fail
    refine R.out.mono ?_
    rintro e f ⟨rfl,l2,h2,D,J,E⟩
    go_wp2
    go_ret
    exact⟨_,_,l2,rfl,n.out.size,h2,n.out.grown D n.out.size (by intro k V;cases V;exact Nat.le_refl _),J,E⟩
end Go.Proofs.YtilkaeclgmcolaaGreat
