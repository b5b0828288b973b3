import Derived.Test.YtilkaeclgmcolaaGreatCopyZz
import Derived.Below
import Derived.Test.YtilkaeclgmcolaaGreatMCellsZz
set_option maxHeartbeats 400000
namespace Go.Proofs.YtilkaeclgmcolaaGreat
open Go Go.RowKit
def Zbu(left:Int)(n:Nat):Int:=if left<n then -1 else left-n
theorem ZdZ{left:Int}(n:Nat)(h0:-1<=left)(h1:left<=1048576):-1<=Zbu left n/\Zbu left n<=1048576:=by unfold Zbu;split <;> omega
theorem ZcH{left:Int}{n:Nat}(h1:left<=1048576)(h:0<=Zbu left n):n<=1048576:=by unfold Zbu at h;split at h <;> omega
theorem szS(ao:Option Addr)(n cap:Nat)(left:Int)(w:World)(hn:n<=maxLen)(h0:0<=left)(h1:left<=1048576):
 Calls Tryz.prog 42 #[.slice ao n cap,.int .i64 left] w fun e w'=>e=.returned (.int .i64 (Zbu left n))/\w'=w:=by
 unfold maxLen at hn
 by_cases h:left<n
 · have a:Zbu left n= -1:=by unfold Zbu;rw [if_pos h]
   have c:left-n<0:=by omega
   go_enter Tryz.func42,Tryz.ntmps42
   go_wp2
   go_ret
   exact⟨ZK a.symm,rfl⟩
 · have a:Zbu left n=left-n:=by unfold Zbu;rw [if_neg h]
   have b:=Za a
   clear a
   have c:¬left-n<0:=by omega
   go_enter Tryz.func42,Tryz.ntmps42
   go_wp2
   go_ret
   exact⟨ZK b.out.symm,rfl⟩
theorem szM(m:Mk)(ao:Option Addr)(cap:Nat)(left:Int)(w:World)(hn:m.2.length<=maxLen)(h0:0<=left)(h1:left<=1048576):
 Calls Tryz.prog 119 #[.agg #[.int .i64 m.1,.slice ao m.2.length cap],.int .i64 left] w fun e w'=>e=.returned (.int .i64 (Zbu left m.2.length))/\Below w.heap.size w w':=by
 have c:=ZdZ m.2.length (by omega) h1
 have a:Hid (∀o,Below w.heap.size w (w.alloc o)):=fun o=>(Below.refl _ _).alloc (Nat.le_refl _) _
 by_cases h:Zbu left m.2.length<0
 · go_enter Tryz.func119,Tryz.ntmps119
   go_wp2_with fail
   refine (szS ao m.2.length cap left _ hn h0 h1).mono ?_
   rintro e b ⟨rfl,rfl⟩
   go_wp2_with fail
   go_ret
   exact⟨ZK (by omega),a.out _⟩
 · go_enter Tryz.func119,Tryz.ntmps119
   go_wp2_with fail
   refine (szS ao m.2.length cap left _ hn h0 h1).mono ?_
   rintro e b ⟨rfl,rfl⟩
   go_wp2_with fail
   go_ret
   exact⟨rfl,a.out _⟩
theorem Zg1(ms:List Mk)(i:Nat):(mat ms i).length=(ZJ ms i).2.length:=rfl
end Go.Proofs.YtilkaeclgmcolaaGreat
