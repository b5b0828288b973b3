import Derived.Test.YtilkaeclgmcolaaGreatHOtZz
import Derived.Test.YtilkaeclgmcolaaGreatHM8Zz
import Derived.Test.YtilkaeclgmcolaaGreatKSuitZz
import Derived.Test.YtilkaeclgmcolaaGreatNearZz
set_option maxHeartbeats 1000000
namespace Go.Proofs.YtilkaeclgmcolaaGreat
open Go Go.RowKit
theorem Zk4(ids:List Int)(l:List Ht)(hd:l.Pairwise (fun a b=>a.1≠b.1))(hn:∀x∈l,x.1 ∉ ids):ZcD ids l=l:=by
 induction l generalizing ids with
 | nil=>rfl
 | cons x xs ih=>
   rw [List.pairwise_cons] at hd
   have e:ZaI ids x.1=false:=by
    rcases hb:ZaI ids x.1 with _ | _
    · rfl
    · unfold ZaI at hb
      rw [List.contains_iff_mem] at hb
      exact absurd hb (hn x (List.mem_cons_self ..))
   simp only [ZcD,e]
   rw [ih (ids++[x.1]) hd.2 (fun y c d=>by
    rcases List.mem_append.1 d with h | h
    · exact hn y (List.mem_cons_of_mem _ c) h
    · simp at h;exact hd.1 y c h.symm)]
   rfl
theorem Zk5{ms:List Mk}{q:List Int}(hm:Zt ms=true):Zih (Z4 (Zae ms q))=Z4 (Zae ms q):=
 Zk4 [] _ (Zgg (ZaN _).symm (ZfR hm q)) (fun _ _ h=>by cases h)
theorem Zk6{B p g:Nat}{w w1 w2:World}(h:Below B w w1)(k:Chg p g w1 w2)(hB:B<=w1.heap.size)(hp:B<=p)(hg:B<=g):Below B w w2:=
 ⟨k.1.trans h.os,k.2.1.trans h.tape,k.2.2.1.trans h.output,Nat.le_trans h.size k.2.2.2.1,fun i hi=>(k.2.2.2.2 i (Nat.lt_of_lt_of_le hi hB) (by omega) (by omega)).trans (h.block i hi)⟩
theorem iNear(ao ao':Option Addr)(cap cap':Nat)(ms:List Mk)(q:List Int)(k:Int)(w:World)(hv:Zo w ao ms)(hv':Zy w ao' q)(hsm:ZL ms)(hq:q.length<=1048576):
 Calls Tryz.prog 196 #[.slice ao ms.length cap,.slice ao' q.length cap',.int .i64 k] w fun e w'=>∃v,e=.returned v/\HOut w.heap.size w' v (Zav ms q k)/\Below w.heap.size w w':=by
 have b:=Za (Zpq k w)
 rcases hk:ZaO k with _ | _
 · have i:Hid (Zav ms q k=[]):=by show Zav ms q k=[];simp [Zav,hk]
   rw [hk] at b
   go_enter Tryz.func196,Tryz.ntmps196
   go_wp2_with fail
   refine b.out.mono ?_
   rintro e u ⟨rfl,rfl⟩
   go_wp2_with fail
   go_ret
   exact⟨_,rfl,Or.inl ⟨rfl,i.out⟩,Below.refl _ _⟩
 · rw [hk] at b
   have h:=Za (Zpr ao ao' cap cap' ms q w hv hv' hsm hq)
   rcases ht:Zbn ms q with _ | _
   · have i:Hid (Zav ms q k=[]):=by show Zav ms q k=[];simp [Zav,ht]
     rw [ht] at h
     go_enter Tryz.func196,Tryz.ntmps196
     go_wp2_with fail
     refine b.out.mono ?_
     rintro e u ⟨rfl,rfl⟩
     go_wp2_with fail
     refine h.out.mono ?_
     rintro e o ⟨rfl,c⟩
     go_wp2_with fail
     go_ret
     exact⟨_,rfl,Or.inl ⟨rfl,i.out⟩,c⟩
   · rw [ht] at h
     have i:Hid (Zav ms q k=(Zih (Z4 (Zae ms q))).take k.toNat):=by
      show Zav ms q k=_
      rw [Zk5 (Zjs ht)];simp [Zav,ht,hk]
     have l:0<=k:=by simp [ZaO] at hk;omega
     have z:=Za (And.intro hv hv')
     clear hv hv' hk ht
     go_enter Tryz.func196,Tryz.ntmps196
     go_wp2_with fail
     refine b.out.mono ?_
     rintro e u ⟨rfl,rfl⟩
     go_wp2_with fail
     refine h.out.mono ?_
     rintro e o ⟨rfl,c⟩
     have G:=Za (Zn8 ao ao' cap cap' ms q o (Zo.next z.out.1 c) (Zy.next z.out.2 c) hsm hq)
     have f:=Za c
     clear c h b
     go_wp2_with fail
     refine G.out.mono ?_
     rintro e E ⟨p,g,B,rfl,s,m,x,a,A⟩
     have d:B.length=ms.length:=by rw [a.length_eq,ZU]
     have y:=Za (Zpp o.heap.size p g ms.length k B E m (by rw [d];exact hsm.1) A l)
     rw [Zii a,<-i.out] at y
     have C:=f.out.size
     have D:=Za (And.intro (f.out.trans (x.mono C)) (And.intro s m.2.2.lt.1))
     clear a A m x d s
     go_wp2_with fail
     refine y.out.mono ?_
     rintro e I ⟨t,F,rfl,n,j⟩
     go_wp2_with fail
     go_ret
     obtain⟨r,H,J⟩:=D.out
     exact⟨_,rfl,Or.inr ⟨t,F,rfl,n.mono r.size⟩,Zk6 r j r.size (by omega) (by omega)⟩
end Go.Proofs.YtilkaeclgmcolaaGreat
