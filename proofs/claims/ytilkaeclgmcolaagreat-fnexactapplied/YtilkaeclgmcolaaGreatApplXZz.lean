/-
 FnExactApplied:at every desk and command the program's Applied answers as the given one,field by field,writes into no argument,and hands out memory of its own. No condition.
-/
import Derived.Test.YtilkaeclgmcolaaGreatApWkZz
import Derived.Test.YtilkaeclgmcolaaGreatDkOkZz
import Derived.Test.YtilkaeclgmcolaaGreatCmMemZz
import Derived.Test.YtilkaeclgmcolaaGreatApplF
set_option maxRecDepth 100000
set_option maxHeartbeats 4000000
namespace Go.Proofs.YtilkaeclgmcolaaGreat.fnExactApplied
open Go.ChangeShapes Go.WideShapes Go.ChangeAt Go.RowKit
set_option linter.unusedVariables false
theorem own:ownKnob Tryz.prog.godebug=none:=by kernel_rfl
theorem laidOut:laidOutB Tryz.prog=true:=by kernel_rfl
theorem walk(am0 aw0 aq0:Option Addr)(cm0 cw0 cq0:Nat)(wd0:Int)(ms0:List Mk)(d0:Int)(ts0:List Wb)(nx0:Int)(ss0:List Zv)(ao1:Option Addr)(cap1:Nat)(cl1 sq1 kd1 id1:Int)(p1:List Int)(w:World)(hm0:Zo w am0 ms0)(hw0:Zp false w aw0 ts0)(hs0:Zm w aq0 ss0)(hf0:ZeF ms0 ts0)(hn0:ss0.length<=maxLen)(hv1:Zy w ao1 p1)(hn1:p1.length<=maxLen):
 Calls Tryz.prog 3 #[.agg #[.int .i64 wd0,.slice am0 ms0.length cm0,.int .i64 d0,.slice aw0 ts0.length cw0,.int .i64 nx0,.slice aq0 ss0.length cq0],.agg #[.int .i64 cl1,.int .i64 sq1,.int .i64 kd1,.int .i64 id1,.slice ao1 p1.length cap1]] w fun e w'=>e=.returned (.bool true)/\Below w.heap.size w w':=by
 exact Zhs am0 aw0 aq0 ao1 cm0 cw0 cq0 cap1 wd0 d0 nx0 cl1 sq1 kd1 id1 ms0 ts0 ss0 p1 w hm0 hw0 hs0 hf0 hn0 hv1 hn1
theorem lifted(os:Os)(started:os.Started)(H:Type)(enc:TypeId×Value->H):
 ReturnsInHanded {} Tryz.checked os 3 .any (Rows.fnExactAppliedSpec.pre6 enc Tryz.prog Tryz.f3 Rows.fnExactAppliedRow.domain false) (Rows.fnExactAppliedSpec.post enc Tryz.prog Tryz.f3 false true false false):=by
 refine returnsInHanded_of_change (C:=Tryz.checked) own started (by kernel_rfl) Tryz.func3
  (ChangeSpec.witness6 (enc:=enc) (C:=Tryz.checked) false ⟨#[],#[.agg #[.int .i64 0,.slice none 0 0,.int .i64 0,.slice none 0 0,.int .i64 0,.slice none 0 0],.agg #[.int .i64 0,.int .i64 0,.int .i64 0,.int .i64 0,.slice none 0 0]],[]⟩ 8 (by kernel_rfl) (by kernel_rfl) (by kernel_rfl) (by kernel_rfl)) ?_
 intro W o b ds gs r f hW ac _
 have g:∀(j:Nat) t v,Tryz.f3.params[j]? =some t->b[j]? =some v->Value.okWide Tryz.prog W .any o t v:=f
 have S:=hW
 obtain⟨p,q,l,hV,rfl,ar,ao⟩:=hW
 have hA:DataW.TrodAll enc Tryz.prog W 0 (fun _=>true) true Tryz.f3.params.toList b.toList ds p:=l
 rw [Tryz.params3] at hA g
 obtain⟨v0,au,d0,av,p0,q0,I,rfl,rfl,h0,r0⟩:=trodAll_cons hA
 obtain⟨v1,al,d1,an,p1,q1,rfl,rfl,rfl,h1,r1⟩:=trodAll_cons r0
 obtain⟨rfl,rfl,rfl⟩:=trodAll_nil r1
 obtain rfl:b=#[v0,v1]:=by cases b;simp_all
 obtain⟨rfl,rfl⟩:=trodVars_none hV
 obtain⟨a5,rfl,A⟩:=ZhA (g 0 30 v0 rfl rfl)
 have k0:=h0
 have E:∀x∈p0,x.block<W.heap.size:=by obtain⟨m,Q⟩:=k0;exact DataW.trod_lt m _ _ _ Q
 obtain⟨z,M,d0,J,K,Z,B,O,X,y,G,u,rfl,a4,T,U,a2,D⟩:=(by obtain⟨n,s⟩:=h0;exact Zky A s:∃(wd:Int) (ms:List Mk) (d:Int) (ts:List Wb) (nx:Int) (ss:List Zv) (am:Option Addr) (cm:Nat) (aw:Option Addr) (cw:Nat) (aq:Option Addr) (cq:Nat),a5=#[.int .i64 wd,.slice am ms.length cm,.int .i64 d,.slice aw ts.length cw,.int .i64 nx,.slice aq ss.length cq]/\Zo W am ms/\Zp false W aw ts/\Zm W aq ss/\ZeF ms ts/\ss.length<=maxLen)
 obtain⟨V,rfl,L⟩:=Zfi (g 1 33 v1 rfl rfl)
 have k1:=h1
 have w:∀x∈p1,x.block<W.heap.size:=by obtain⟨m,Q⟩:=k1;exact DataW.trod_lt m _ _ _ Q
 obtain⟨P,a0,N,a3,Y,a1,k,rfl,F,R⟩:=(by obtain⟨n,s⟩:=h1;exact ZgY L s:∃(cl sq kd id:Int) (p:List Int) (a:Option Addr) (c:Nat),V=#[.int .i64 cl,.int .i64 sq,.int .i64 kd,.int .i64 id,.slice a p.length c]/\Zy W a p/\p.length<=maxLen)
 clear l f
 refine (walk B X G O y u z M d0 J K Z a1 k P a0 N a3 Y W a4 T U a2 D F R).mono fun e W' ⟨he,i⟩=>?_
 subst he
 exact⟨_,rfl,_,_,_,[],_,[],S,trodAll_mk1 (shut_bool Tryz.underlying4 _),(trodAll_cons_mk (Below.trod laidOut (by kernel_rfl) (of_decide_eq_true (by kernel_rfl)) k0 i E) (trodAll_cons_mk (Below.trod laidOut (by kernel_rfl) (of_decide_eq_true (by kernel_rfl)) k1 i w) trodAll_mk0)),rfl,i.frame _,fun h=>by cases h⟩
theorem over:Rows.fnExactAppliedRow.holds Tryz.pinned (OpenSpec.ofChange Rows.fnExactAppliedSpec):=
 OpenClaim.holds_of_wide 3 Tryz.f3 rfl rfl rfl rfl rfl rfl rfl ⟨rfl,rfl,rfl,rfl,rfl⟩ rfl rfl rfl rfl rfl (by kernel_rfl) Tryz.func3 closed
  (of_decide_eq_true (by kernel_rfl)) (by unfold Func.isWrapper;first | (rw [if_pos (by decide+kernel)];kernel_rfl) | (rw [if_neg (by decide+kernel)];exact⟨rfl,rfl⟩))
  (fun os started H enc _=>lifted os started H enc)
end Go.Proofs.YtilkaeclgmcolaaGreat.fnExactApplied
namespace Go.Proofs.YtilkaeclgmcolaaGreat
theorem FnExactApplied_holds:Rows.FnExactAppliedSaid:=fnExactApplied.over
end Go.Proofs.YtilkaeclgmcolaaGreat
