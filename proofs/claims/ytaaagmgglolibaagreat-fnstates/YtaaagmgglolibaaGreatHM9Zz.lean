import Derived.Test.YtaaagmgglolibaaGreatHOtZz
import Derived.Test.YtaaagmgglolibaaGreatHM8Zz
import Derived.Test.YtaaagmgglolibaaGreatKSuitZz
import Derived.Test.YtaaagmgglolibaaGreatNearZz
set_option maxHeartbeats 1000000
namespace Go.Proofs.YtaaagmgglolibaaGreat
open Go Go.RowKit
theorem Zke(ids:List Int)(l:List Ht)(hd:l.Pairwise (fun a b=>a.1≠b.1))(hn:∀x∈l,x.1 ∉ ids):Zcr ids l=l:=by
 induction l generalizing ids with
 | nil=>rfl
 | cons x xs ih=>
   rw [List.pairwise_cons] at hd
   have h1:ZaK ids x.1=false:=by
    rcases hb:ZaK ids x.1 with _ | _
    · rfl
    · unfold ZaK at hb
      rw [List.contains_iff_mem] at hb
      exact absurd hb (hn x (List.mem_cons_self ..))
   simp only [Zcr,h1]
   rw [ih (ids++[x.1]) hd.2 (fun y hy hm=>by
    rcases List.mem_append.1 hm with h | h
    · exact hn y (List.mem_cons_of_mem _ hy) h
    · simp at h;exact hd.1 y hy h.symm)]
   rfl
theorem Zkf{ms:List Mk}{q:List Int}(hm:Zn ms=true):Zhy (ZU (Z0 ms q))=ZU (Z0 ms q):=
 Zke [] _ (ZfP (Zao _).symm (Zfm hm q)) (fun _ _ h=>by cases h)
theorem Zkg{B p g:Nat}{w w1 w2:World}(h:Below B w w1)(k:Chg p g w1 w2)(hB:B<=w1.heap.size)(hp:B<=p)(hg:B<=g):Below B w w2:=
 ⟨k.1.trans h.os,k.2.1.trans h.tape,k.2.2.1.trans h.output,Nat.le_trans h.size k.2.2.2.1,fun i hi=>(k.2.2.2.2 i (Nat.lt_of_lt_of_le hi hB) (by omega) (by omega)).trans (h.block i hi)⟩
theorem ZnG(ao ao':Option Addr)(cap cap':Nat)(ms:List Mk)(q:List Int)(k:Int)(w:World)(hv:Zq w ao ms)(hv':Zs w ao' q)(hsm:ZX ms)(hq:q.length<=1048576):
 Calls Tryz.prog 141 #[.slice ao ms.length cap,.slice ao' q.length cap',.int .i64 k] w fun e w'=>∃v,e=.returned v/\ZiF w.heap.size w' v (Z1 ms q k)/\Below w.heap.size w w':=by
 have HK:=Za (Zog k w)
 rcases hk:Zaz k with _ | _
 · have HV:Hid (Z1 ms q k=[]):=by show Z1 ms q k=[];simp [Z1,hk]
   rw [hk] at HK
   go_enter Tryz.func141,Tryz.ntmps141
   go_wp2_with fail
   refine HK.out.mono ?_
   rintro e w1 ⟨rfl,rfl⟩
   go_wp2_with fail
   go_ret
   exact⟨_,rfl,Or.inl ⟨rfl,HV.out⟩,Below.refl _ _⟩
 · rw [hk] at HK
   have HS:=Za (Zoh ao ao' cap cap' ms q w hv hv' hsm hq)
   rcases ht:Zap ms q with _ | _
   · have HV:Hid (Z1 ms q k=[]):=by show Z1 ms q k=[];simp [Z1,ht]
     rw [ht] at HS
     go_enter Tryz.func141,Tryz.ntmps141
     go_wp2_with fail
     refine HK.out.mono ?_
     rintro e w1 ⟨rfl,rfl⟩
     go_wp2_with fail
     refine HS.out.mono ?_
     rintro e w2 ⟨rfl,L2⟩
     go_wp2_with fail
     go_ret
     exact⟨_,rfl,Or.inl ⟨rfl,HV.out⟩,L2⟩
   · rw [ht] at HS
     have HV:Hid (Z1 ms q k=(Zhy (ZU (Z0 ms q))).take k.toNat):=by
      show Z1 ms q k=_
      rw [Zkf (Zfn ht)];simp [Z1,ht,hk]
     have hk0:0<=k:=by simp [Zaz] at hk;omega
     have HM:=Za (And.intro hv hv')
     clear hv hv' hk ht
     go_enter Tryz.func141,Tryz.ntmps141
     go_wp2_with fail
     refine HK.out.mono ?_
     rintro e w1 ⟨rfl,rfl⟩
     go_wp2_with fail
     refine HS.out.mono ?_
     rintro e w2 ⟨rfl,L2⟩
     have HH:=Za (ZmV ao ao' cap cap' ms q w2 (Zq.next HM.out.1 L2) (Zs.next HM.out.2 L2) hsm hq)
     have HL2:=Za L2
     clear L2 HS HK
     go_wp2_with fail
     refine HH.out.mono ?_
     rintro e w3 ⟨p,g,l',rfl,hp,hA,L3,hpm,hh⟩
     have hl':l'.length=ms.length:=by rw [hpm.length_eq,ZO]
     have HF:=Za (Zof w2.heap.size p g ms.length k l' w3 hA (by rw [hl'];exact hsm.1) hh hk0)
     rw [Zhz hpm,<-HV.out] at HF
     have hz:=HL2.out.size
     have HX:=Za (And.intro (HL2.out.trans (L3.mono hz)) (And.intro hp hA.2.2.lt.1))
     clear hpm hh hA L3 hl' hp
     go_wp2_with fail
     refine HF.out.mono ?_
     rintro e w4 ⟨t,ct,rfl,hr4,hc4⟩
     go_wp2_with fail
     go_ret
     obtain⟨h1,h2,h3⟩:=HX.out
     exact⟨_,rfl,Or.inr ⟨t,ct,rfl,hr4.mono h1.size⟩,Zkg h1 hc4 h1.size (by omega) (by omega)⟩
end Go.Proofs.YtaaagmgglolibaaGreat
