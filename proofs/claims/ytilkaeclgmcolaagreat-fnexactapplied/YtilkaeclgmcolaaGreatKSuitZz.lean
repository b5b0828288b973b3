import Derived.Test.YtilkaeclgmcolaaGreatMCopyZz
import Derived.Test.YtilkaeclgmcolaaGreatMathZz
set_option maxRecDepth 100000
set_option maxHeartbeats 2000000
namespace Go.Proofs.YtilkaeclgmcolaaGreat
open Go Go.RowKit
theorem Zpq(k:Int)(w:World):
 Calls Tryz.prog 212 #[.int .i64 k] w fun e w'=>e=.returned (.bool (ZaO k))/\w'=w:=by
 by_cases h1:k≥1
 · by_cases h2:k<=60
   · have a:Hid (ZaO k=true):=by show ZaO k=true;simp [ZaO];omega
     go_enter Tryz.func212,Tryz.ntmps212
     go_wp2
     go_ret
     exact⟨Zd a.out.symm,rfl⟩
   · have a:Hid (ZaO k=false):=by show ZaO k=false;simp [ZaO];omega
     go_enter Tryz.func212,Tryz.ntmps212
     go_wp2
     go_ret
     exact⟨Zd a.out.symm,rfl⟩
 · have a:Hid (ZaO k=false):=by show ZaO k=false;simp [ZaO];omega
   go_enter Tryz.func212,Tryz.ntmps212
   go_wp2
   go_ret
   exact⟨Zd a.out.symm,rfl⟩
def ZcV(ms:List Mk)(n:Nat):Bool:=decide (ms.length=0) || decide ((mat ms 0).length=n)
theorem Zjt{ms:List Mk}{q:List Int}(h1:Zt ms=true)(h2:okB q=true):Zbn ms q=ZcV ms q.length:=by simp [Zbn,ZcV,h1,h2]
theorem iLong(ao ao':Option Addr)(cap cap' n:Nat)(ms:List Mk)(w:World)(hv:Zo w ao ms):
 Calls Tryz.prog 227 #[.slice ao' n cap',.slice ao ms.length cap] w fun e w'=>e=.returned (.bool (ZcV ms n))/\w'=w:=by
 by_cases h0:ms.length=0
 · have a:Hid (ZcV ms n=true):=by show ZcV ms n=true;simp [ZcV,h0]
   have f:((ms.length:Int) ==0)=true:=by simp;simpa using h0
   clear h0
   go_enter Tryz.func227,Tryz.ntmps227
   go_wp2_with fail
   go_ret
   exact⟨Zd a.out.symm,rfl⟩
 · have f:((ms.length:Int) ==0)=false:=by simp;simpa using h0
   obtain⟨b,j,rfl,l,k⟩:=ZaV.seg hv (by omega)
   obtain⟨-,m,o,d,-⟩:=k.at (i:=0) (by omega)
   rw [Nat.zero_mul,Nat.add_zero] at d
   have h:(0:Int)<(ms.length:Int):=by omega
   have g:0<ms.length:=by omega
   by_cases hl:(mat ms 0).length=n
   · have a:Hid (ZcV ms n=true):=by show ZcV ms n=true;simp [ZcV,hl]
     have c:(((mat ms 0).length:Int) ==(n:Int))=true:=by simp [hl]
     clear hl h0
     go_enter Tryz.func227,Tryz.ntmps227
     go_wp2_with fail
     go_ret
     exact⟨Zd a.out.symm,rfl⟩
   · have a:Hid (ZcV ms n=false):=by show ZcV ms n=false;simp only [ZcV,h0,hl,decide_false,Bool.or_false]
     have c:(((mat ms 0).length:Int) ==(n:Int))=false:=by simp;omega
     clear hl h0
     go_enter Tryz.func227,Tryz.ntmps227
     go_wp2_with fail
     go_ret
     exact⟨Zd a.out.symm,rfl⟩
theorem Zpr(ao ao':Option Addr)(cap cap':Nat)(ms:List Mk)(q:List Int)(w:World)(hv:Zo w ao ms)(hv':Zy w ao' q)(hsm:ZL ms)(hq:q.length<=1048576):
 Calls Tryz.prog 213 #[.slice ao' q.length cap',.slice ao ms.length cap] w fun e w'=>e=.returned (.bool (Zbn ms q))/\Below w.heap.size w w':=by
 have c:=Za (iOk ao' cap' q w hv' hq)
 rcases hok:okB q with _ | _
 · have d:=Za (Zin (ms:=ms) hok)
   rw [hok] at c
   go_enter Tryz.func213,Tryz.ntmps213
   go_wp2_with fail
   refine c.out.mono ?_
   rintro e g ⟨rfl,rfl⟩
   go_wp2_with fail
   go_ret
   exact⟨Zd d.out.symm,Below.refl _ _⟩
 · rw [hok] at c
   have f:=Za (Zg7 ao cap ms w hv hsm)
   rcases hm:Zt ms with _ | _
   · have d:=Za (Zgy (q:=q) hm)
     rw [hm] at f
     go_enter Tryz.func213,Tryz.ntmps213
     go_wp2_with fail
     refine c.out.mono ?_
     rintro e g ⟨rfl,rfl⟩
     go_wp2_with fail
     refine f.out.mono ?_
     rintro e b ⟨rfl,a⟩
     go_wp2_with fail
     go_ret
     exact⟨Zd d.out.symm,a⟩
   · rw [hm] at f
     have d:=Za (Zjt hm hok)
     have h:=Za (fun b (a:Below w.heap.size w b)=>iLong ao ao' cap cap' q.length ms b (hv.next a))
     clear hv hv'
     go_enter Tryz.func213,Tryz.ntmps213
     go_wp2_with fail
     refine c.out.mono ?_
     rintro e g ⟨rfl,rfl⟩
     go_wp2_with fail
     refine f.out.mono ?_
     rintro e b ⟨rfl,a⟩
     go_wp2_with fail
     refine (h.out b a).mono ?_
     rintro e i ⟨rfl,rfl⟩
     go_wp2_with fail
     go_ret
     exact⟨Zd d.out.symm,a⟩
end Go.Proofs.YtilkaeclgmcolaaGreat
