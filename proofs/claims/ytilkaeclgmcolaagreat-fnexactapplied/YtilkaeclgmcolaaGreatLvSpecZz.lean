import Derived.Test.YtilkaeclgmcolaaGreatMathZz
import Derived.Test.YtilkaeclgmcolaaGreatJRwZz
import Derived.BigQuiet
set_option maxRecDepth 100000
set_option maxHeartbeats 1000000
namespace Go.Proofs.YtilkaeclgmcolaaGreat
open Go Go.RowKit Go.BigFrame
theorem Zpa(ao:Option Addr)(cap:Nat)(xs:List Int)(w:World)(hv:Zy w ao xs)(hn:xs.length<=1048576):
 Calls Tryz.prog 184 #[.slice ao xs.length cap] w fun e w'=>e=.returned (.bool (Za0 xs))/\∃n,w'=w.drewN n:=by
 go_enter Tryz.func184,Tryz.ntmps184
 go_wp2_with fail
 go_loopw [3] (fun i wr=>∃j:Nat,(j+1<=xs.length\/j=0)/\i=.int .i64 ((j:Int)+1)/\(∀t,t<j->nth xs t<nth xs (t+1))/\∃n,wr=w.drewN n) (fun i _=>xs.length+1-(intOf i).toNat)
 case atStart=>exact⟨0,Or.inr rfl,rfl,fun t m=>by omega,0,rfl⟩
 case round=>
  obtain⟨j,y,rfl,a,n,rfl⟩:=hrel
  have k:=Za a
  clear a
  by_cases hlt:j+1<xs.length
  · obtain⟨b,c,rfl,x,l⟩:∃b c,ao=some ⟨b,c,none⟩/\b<w.heap.size/\Seg w b c xs:=by
     rcases hv with h | h
     · subst h;simp at hlt
     · exact h
    have c0:=l j (by omega)
    have c1:=l (j+1) hlt
    have r:IntKind.i64.wrap ((j:Int)+1-1)=(j:Int):=by rw [IntWalk.i64_in _ ⟨by omega,by omega⟩];omega
    have p:(0:Int)<=(j:Int)+1:=by omega
    have s:(j:Int)+1<(xs.length:Int):=by omega
    have v:(0:Int)<=(j:Int):=by omega
    have o:(j:Int)<(xs.length:Int):=by omega
    have u:IntKind.i64.wrap ((j:Int)+1+1)=((j+1:Nat):Int)+1:=by rw [IntWalk.i64_in _ ⟨by omega,by omega⟩];omega
    have g:=Za (Zli hlt)
    by_cases he:nth xs (j+1)<=nth xs j
    · have d:=Za (g.out he)
      go_wp2_with fail
      go_quiet (fail)
      go_wp2_with fail
      go_ret
      exact⟨Zd (Eq.symm d.out),n+nq,by simp⟩
    · have q:=Za he
      go_wp2_with fail
      go_quiet (fail)
      go_wp2_with fail
      go_roundw
      case rel=>exact⟨j+1,Or.inl (by omega),by first | rfl | (congr 1;omega),fun t m=>by
       rcases Nat.lt_or_ge t j with h | h
       · exact k.out t h
       · obtain rfl:t=j:=by omega
         have:=q.out
         omega,n+nq,by simp⟩
      case measure=>simp [intOf];omega
  · have f:¬((j:Int)+1<(xs.length:Int)):=by omega
    have d:Hid (Za0 xs=true):=(Zbb xs).2 (fun t m=>k.out t (by omega))
    go_wp2_with fail
    go_ret
    exact⟨Zd (Eq.symm d.out),n,rfl⟩
end Go.Proofs.YtilkaeclgmcolaaGreat
