import Derived.Test.YtilkaeclgmcolaaGreatMathZz
import Derived.Test.YtilkaeclgmcolaaGreatBetZz
set_option maxHeartbeats 400000
namespace Go.Proofs.YtilkaeclgmcolaaGreat
open Go Go.RowKit
theorem Zhp{ms:List Mk}{id:Int}{m:Nat}(h:0<=Z6 ms id m):∀n,m<=n->Z6 ms id n=Z6 ms id m:=by
 intro n a
 induction n with
 | zero=>rw [show m=0 by omega]
 | succ n ih=>
   rcases Nat.lt_or_ge m (n+1) with h1 | h1
   · have e:=ih (by omega)
     simp only [Z6]
     rw [e,if_pos h]
   · rw [show m=n+1 by omega]
theorem ZiO{ms:List Mk}{id:Int}{k:Nat}(hk:k<ms.length)(h:Z6 ms id k= -1)(e:mid ms k=id):ZC ms id=k:=by
 have a:Z6 ms id (k+1)=k:=by simp only [Z6];rw [h,if_neg (by omega),if_pos e]
 have b:=Zhp (ms:=ms) (id:=id) (m:=k+1) (by omega) ms.length (by omega)
 unfold ZC
 omega
theorem Zhq{ms:List Mk}{id:Int}{k:Nat}(h:Z6 ms id k= -1)(e:¬mid ms k=id):Z6 ms id (k+1)= -1:=by
 simp only [Z6];rw [h,if_neg (by omega),if_neg e]
theorem Zgo(ao:Option Addr)(cap:Nat)(ms:List Mk)(id:Int)(w:World)(hv:Zo w ao ms)(hn:ms.length<=1048576):
 Calls Tryz.prog 116 #[.slice ao ms.length cap,.int .i64 id] w fun e w'=>e=.returned (.int .i64 (ZC ms id))/\w'=w:=by
 go_enter Tryz.func116,Tryz.ntmps116
 go_wp2_with fail
 go_loop [5] (fun i=>∃k:Nat,k<=ms.length/\i=.int .i64 k/\Z6 ms id k= -1) (fun i=>ms.length-(intOf i).toNat)
 case atStart=>exact⟨0,Nat.zero_le _,rfl,rfl⟩
 case round=>
  obtain⟨k,o,rfl,a⟩:=hrel
  have c:=Za a
  clear a
  by_cases hlt:k<ms.length
  · obtain⟨b,j,rfl,m,g⟩:=ZaV.seg hv (by omega)
    have n:=(g.at hlt).1
    have h:=n0Z k
    have l:(k:Int)<(ms.length:Int):=by omega
    clear g
    by_cases he:mid ms k=id
    · have f:=Za (ZiO hlt c.out he)
      have d:(mid ms k ==id)=true:=by simp [he]
      clear he
      go_wp2_with fail
      go_ret
      exact⟨ZK f.out.symm,rfl⟩
    · have f:=Za (Zhq c.out he)
      have d:(mid ms k ==id)=false:=by simp [he]
      clear he
      go_wp2_with fail
      go_round
      case rel=>exact⟨k+1,by omega,by go_num,f.out⟩
      case measure=>simp [intOf];omega
  · go_wp2_with fail
    go_ret
    obtain rfl:k=ms.length:=by omega
    exact⟨ZK c.out.symm,rfl⟩
end Go.Proofs.YtilkaeclgmcolaaGreat
