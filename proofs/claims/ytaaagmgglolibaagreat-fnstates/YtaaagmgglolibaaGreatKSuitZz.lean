import Derived.Test.YtaaagmgglolibaaGreatMCopyZz
import Derived.Test.YtaaagmgglolibaaGreatMathZz
set_option maxRecDepth 100000
set_option maxHeartbeats 2000000
namespace Go.Proofs.YtaaagmgglolibaaGreat
open Go Go.RowKit
theorem Zog(k:Int)(w:World):
 Calls Tryz.prog 106 #[.int .i64 k] w fun e w'=>e=.returned (.bool (Zaz k))/\w'=w:=by
 by_cases h1:k≥1
 · by_cases h2:k<=60
   · have HV:Hid (Zaz k=true):=by show Zaz k=true;simp [Zaz];omega
     go_enter Tryz.func106,Tryz.ntmps106
     go_wp2
     go_ret
     exact⟨Zg HV.out.symm,rfl⟩
   · have HV:Hid (Zaz k=false):=by show Zaz k=false;simp [Zaz];omega
     go_enter Tryz.func106,Tryz.ntmps106
     go_wp2
     go_ret
     exact⟨Zg HV.out.symm,rfl⟩
 · have HV:Hid (Zaz k=false):=by show Zaz k=false;simp [Zaz];omega
   go_enter Tryz.func106,Tryz.ntmps106
   go_wp2
   go_ret
   exact⟨Zg HV.out.symm,rfl⟩
def ZcH(ms:List Mk)(n:Nat):Bool:=decide (ms.length=0) || decide ((mat ms 0).length=n)
theorem ZiG{ms:List Mk}{q:List Int}(h1:Zn ms=true)(h2:okB q=true):Zap ms q=ZcH ms q.length:=by simp [Zap,ZcH,h1,h2]
theorem iLong(ao ao':Option Addr)(cap cap' n:Nat)(ms:List Mk)(w:World)(hv:Zq w ao ms):
 Calls Tryz.prog 189 #[.slice ao' n cap',.slice ao ms.length cap] w fun e w'=>e=.returned (.bool (ZcH ms n))/\w'=w:=by
 by_cases h0:ms.length=0
 · have HV:Hid (ZcH ms n=true):=by show ZcH ms n=true;simp [ZcH,h0]
   have hb0:((ms.length:Int) ==0)=true:=by simp;simpa using h0
   clear h0
   go_enter Tryz.func189,Tryz.ntmps189
   go_wp2_with fail
   go_ret
   exact⟨Zg HV.out.symm,rfl⟩
 · have hb0:((ms.length:Int) ==0)=false:=by simp;simpa using h0
   obtain⟨b,off,rfl,hb,hs⟩:=Zbi.seg hv (by omega)
   obtain⟨-,ae,ce,hc1,-⟩:=hs.at (i:=0) (by omega)
   rw [Nat.zero_mul,Nat.add_zero] at hc1
   have hpos:(0:Int)<(ms.length:Int):=by omega
   have hpos2:0<ms.length:=by omega
   by_cases hl:(mat ms 0).length=n
   · have HV:Hid (ZcH ms n=true):=by show ZcH ms n=true;simp [ZcH,hl]
     have hlb:(((mat ms 0).length:Int) ==(n:Int))=true:=by simp [hl]
     clear hl h0
     go_enter Tryz.func189,Tryz.ntmps189
     go_wp2_with fail
     go_ret
     exact⟨Zg HV.out.symm,rfl⟩
   · have HV:Hid (ZcH ms n=false):=by show ZcH ms n=false;simp only [ZcH,h0,hl,decide_false,Bool.or_false]
     have hlb:(((mat ms 0).length:Int) ==(n:Int))=false:=by simp;omega
     clear hl h0
     go_enter Tryz.func189,Tryz.ntmps189
     go_wp2_with fail
     go_ret
     exact⟨Zg HV.out.symm,rfl⟩
theorem Zoh(ao ao':Option Addr)(cap cap':Nat)(ms:List Mk)(q:List Int)(w:World)(hv:Zq w ao ms)(hv':Zs w ao' q)(hsm:ZX ms)(hq:q.length<=1048576):
 Calls Tryz.prog 107 #[.slice ao' q.length cap',.slice ao ms.length cap] w fun e w'=>e=.returned (.bool (Zap ms q))/\Below w.heap.size w w':=by
 have HP:=Za (iOk ao' cap' q w hv' hq)
 rcases hok:okB q with _ | _
 · have HV:=Za (ZhE (ms:=ms) hok)
   rw [hok] at HP
   go_enter Tryz.func107,Tryz.ntmps107
   go_wp2_with fail
   refine HP.out.mono ?_
   rintro e w1 ⟨rfl,rfl⟩
   go_wp2_with fail
   go_ret
   exact⟨Zg HV.out.symm,Below.refl _ _⟩
 · rw [hok] at HP
   have HC:=Za (ZgB ao cap ms w hv hsm)
   rcases hm:Zn ms with _ | _
   · have HV:=Za (Zf6 (q:=q) hm)
     rw [hm] at HC
     go_enter Tryz.func107,Tryz.ntmps107
     go_wp2_with fail
     refine HP.out.mono ?_
     rintro e w1 ⟨rfl,rfl⟩
     go_wp2_with fail
     refine HC.out.mono ?_
     rintro e w2 ⟨rfl,L2⟩
     go_wp2_with fail
     go_ret
     exact⟨Zg HV.out.symm,L2⟩
   · rw [hm] at HC
     have HV:=Za (ZiG hm hok)
     have HL:=Za (fun w2 (L2:Below w.heap.size w w2)=>iLong ao ao' cap cap' q.length ms w2 (hv.next L2))
     clear hv hv'
     go_enter Tryz.func107,Tryz.ntmps107
     go_wp2_with fail
     refine HP.out.mono ?_
     rintro e w1 ⟨rfl,rfl⟩
     go_wp2_with fail
     refine HC.out.mono ?_
     rintro e w2 ⟨rfl,L2⟩
     go_wp2_with fail
     refine (HL.out w2 L2).mono ?_
     rintro e w3 ⟨rfl,rfl⟩
     go_wp2_with fail
     go_ret
     exact⟨Zg HV.out.symm,L2⟩
end Go.Proofs.YtaaagmgglolibaaGreat
