import Derived.Test.YtaaagmgglolibaaGreatMathZz
import Derived.Test.YtaaagmgglolibaaGreatBetZz
set_option maxHeartbeats 400000
namespace Go.Proofs.YtaaagmgglolibaaGreat
open Go Go.RowKit
theorem ZgY{ms:List Mk}{id:Int}{m:Nat}(h:0<=Z4 ms id m):∀n,m<=n->Z4 ms id n=Z4 ms id m:=by
 intro n hn
 induction n with
 | zero=>rw [show m=0 by omega]
 | succ n ih=>
   rcases Nat.lt_or_ge m (n+1) with h1 | h1
   · have e:=ih (by omega)
     simp only [Z4]
     rw [e,if_pos h]
   · rw [show m=n+1 by omega]
theorem Zia{ms:List Mk}{id:Int}{k:Nat}(hk:k<ms.length)(h:Z4 ms id k= -1)(e:mid ms k=id):Zv ms id=k:=by
 have h1:Z4 ms id (k+1)=k:=by simp only [Z4];rw [h,if_neg (by omega),if_pos e]
 have h2:=ZgY (ms:=ms) (id:=id) (m:=k+1) (by omega) ms.length (by omega)
 unfold Zv
 omega
theorem ZgZ{ms:List Mk}{id:Int}{k:Nat}(h:Z4 ms id k= -1)(e:¬mid ms k=id):Z4 ms id (k+1)= -1:=by
 simp only [Z4];rw [h,if_neg (by omega),if_neg e]
theorem Ze2(ao:Option Addr)(cap:Nat)(ms:List Mk)(id:Int)(w:World)(hv:Zq w ao ms)(hn:ms.length<=1048576):
 Calls Tryz.prog 116 #[.slice ao ms.length cap,.int .i64 id] w fun e w'=>e=.returned (.int .i64 (Zv ms id))/\w'=w:=by
 go_enter Tryz.func116,Tryz.ntmps116
 go_wp2_with fail
 go_loop [5] (fun i=>∃k:Nat,k<=ms.length/\i=.int .i64 k/\Z4 ms id k= -1) (fun i=>ms.length-(intOf i).toNat)
 case atStart=>exact⟨0,Nat.zero_le _,rfl,rfl⟩
 case round=>
  obtain⟨k,hk,rfl,hno⟩:=hrel
  have HN:=Za hno
  clear hno
  by_cases hlt:k<ms.length
  · obtain⟨b,off,rfl,hb,hs⟩:=Zbi.seg hv (by omega)
    have hc:=(hs.at hlt).1
    have hi0:(0:Int)<=(k:Int):=Int.natCast_nonneg _
    have hi1:(k:Int)<(ms.length:Int):=by omega
    clear hs
    by_cases he:mid ms k=id
    · have HV:=Za (Zia hlt HN.out he)
      have heb:(mid ms k ==id)=true:=by simp [he]
      clear he
      go_wp2_with fail
      go_ret
      exact⟨ZK HV.out.symm,rfl⟩
    · have HV:=Za (ZgZ HN.out he)
      have heb:(mid ms k ==id)=false:=by simp [he]
      clear he
      go_wp2_with fail
      go_round
      case rel=>exact⟨k+1,by omega,by go_num,HV.out⟩
      case measure=>simp [intOf];omega
  · go_wp2_with fail
    go_ret
    obtain rfl:k=ms.length:=by omega
    exact⟨ZK HN.out.symm,rfl⟩
end Go.Proofs.YtaaagmgglolibaaGreat
