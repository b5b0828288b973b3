import Derived.Test.YtaaagmgglolibaaGreatMathZz
import Derived.Test.YtaaagmgglolibaaGreatJRwZz
import Derived.BigQuiet
set_option maxRecDepth 100000
set_option maxHeartbeats 1000000
namespace Go.Proofs.YtaaagmgglolibaaGreat
open Go Go.RowKit Go.BigFrame
theorem Zn4(ao:Option Addr)(cap:Nat)(xs:List Int)(w:World)(hv:Zs w ao xs)(hn:xs.length<=1048576):
 Calls Tryz.prog 202 #[.slice ao xs.length cap] w fun e w'=>e=.returned (.bool (Za7 xs))/\∃n,w'=w.drewN n:=by
 go_enter Tryz.func202,Tryz.ntmps202
 go_wp2_with fail
 go_loopw [3] (fun i wr=>∃j:Nat,(j+1<=xs.length\/j=0)/\i=.int .i64 ((j:Int)+1)/\(∀t,t<j->nth xs t<nth xs (t+1))/\∃n,wr=w.drewN n) (fun i _=>xs.length+1-(intOf i).toNat)
 case atStart=>exact⟨0,Or.inr rfl,rfl,fun t ht=>by omega,0,rfl⟩
 case round=>
  obtain⟨j,hj,rfl,hall,n,rfl⟩:=hrel
  have HA:=Za hall
  clear hall
  by_cases hlt:j+1<xs.length
  · obtain⟨b,off,rfl,hb,hs⟩:∃b off,ao=some ⟨b,off,none⟩/\b<w.heap.size/\Seg w b off xs:=by
     rcases hv with h | h
     · subst h;simp at hlt
     · exact h
    have c0:=hs j (by omega)
    have c1:=hs (j+1) hlt
    have hw0:IntKind.i64.wrap ((j:Int)+1-1)=(j:Int):=by rw [IntWalk.i64_in _ ⟨by omega,by omega⟩];omega
    have hi0:(0:Int)<=(j:Int)+1:=by omega
    have hi1:(j:Int)+1<(xs.length:Int):=by omega
    have hi2:(0:Int)<=(j:Int):=by omega
    have hi3:(j:Int)<(xs.length:Int):=by omega
    have hww:IntKind.i64.wrap ((j:Int)+1+1)=((j+1:Nat):Int)+1:=by rw [IntWalk.i64_in _ ⟨by omega,by omega⟩];omega
    have HNO:=Za (Zkz hlt)
    by_cases he:nth xs (j+1)<=nth xs j
    · have HN:=Za (HNO.out he)
      go_wp2_with fail
      go_quiet (fail)
      go_wp2_with fail
      go_ret
      exact⟨Zg (Eq.symm HN.out),n+nq,by simp⟩
    · have HE:=Za he
      go_wp2_with fail
      go_quiet (fail)
      go_wp2_with fail
      go_roundw
      case rel=>exact⟨j+1,Or.inl (by omega),by first | rfl | (congr 1;omega),fun t ht=>by
       rcases Nat.lt_or_ge t j with h | h
       · exact HA.out t h
       · obtain rfl:t=j:=by omega
         have:=HE.out
         omega,n+nq,by simp⟩
      case measure=>simp [intOf];omega
  · have hcond:¬((j:Int)+1<(xs.length:Int)):=by omega
    have HN:Hid (Za7 xs=true):=(Zbe xs).2 (fun t ht=>HA.out t (by omega))
    go_wp2_with fail
    go_ret
    exact⟨Zg (Eq.symm HN.out),n,rfl⟩
end Go.Proofs.YtaaagmgglolibaaGreat
