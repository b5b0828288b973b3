import Derived.Deep.RegionHeld3
namespace Go.Proofs.YtaaagmgglolibaaGreat
open Go
theorem Zko{P:Program}{Q:Exit->Act->World->Prop}{x:Oper}{a:Act}{K next:Act->World->Prop}{r:Result Next}(h:Oper.upon P x a K (Exit.then next Q) r):Oper.upon P x a K Q r:=by
 cases r with
 | ok n w=>cases n <;> exact h
 | halt y w=>cases y <;> exact h
theorem ZhK{P:Program}{pre:Array Oper}{o:Oper}{Q:Exit->Act->World->Prop}{i:Nat}{K next:Act->World->Prop}{a:Act}{w:World}(hi:i<pre.size)(hg:∀x:Oper,pre[i]? =some x->x.guard=none)(h:wpOp P pre (Exit.then next Q) i K a w):wpOp P (pre.push o) Q i K a w:=by
 unfold wpOp at *
 have e:(pre.push o)[i]? =pre[i]? :=by rw [Array.getElem?_push];simp [Nat.ne_of_lt hi]
 rw [e]
 cases hx:pre[i]? with
 | none=>simp only [hx] at h;exact h
 | some x=>
   simp only [hx] at h
   have hw:∀y,Region.wanted x y=true:=fun y=>by simp [Region.wanted,hg x hx]
   simp only [hw,if_true] at h ⊢
   exact h.imp Zko id
theorem Z3(listed:Array Bool)(k:Nat)(d:Bool)(h:k<listed.size):(listed.push false).getD k d=listed.getD k d:=by
 simp [Array.getElem?_push,Nat.ne_of_lt h]
theorem ZcV(listed:Array Bool)(d:Bool):(listed.push false).getD listed.size d=false:=by simp
theorem Zfq{md:Region.Mode}{ops:Array Oper}{listed:Array Bool}(hs:listed.size=ops.size)(hb:∀(j:Nat) (x:Oper),ops[j]? =some x->∀e∈x.after,e.on<j)(hr:Region.ready md ops listed=[]):∀j,j<ops.size->listed.getD j true=true:=by
 intro j
 induction j using Nat.strongRecOn with
 | _ j ih=>
   intro hj
   cases hl:listed.getD j true with
   | true=>rfl
   | false=>
     have hx:ops[j]? =some ops[j]:=Array.getElem?_eq_getElem hj
     have hm:j∈Region.ready md ops listed:=mem_ready.2 ⟨hl,ops[j],hx,fun e he _=>by
      have hlt:=hb j ops[j] hx e he
      have h1:=ih e.on hlt (by omega)
      have hsz:e.on<listed.size:=by omega
      simp [hsz] at h1 ⊢
      exact h1⟩
     rw [hr] at hm
     cases hm
theorem ZiS{P:Program}{md:Region.Mode}{pre:Array Oper}{o:Oper}{Q:Exit->Act->World->Prop}(hb:∀(j:Nat) (x:Oper),(pre.push o)[j]? =some x->∀e∈x.after,e.on<j)(hg:∀(i:Nat) (x:Oper),pre[i]? =some x->x.guard=none)(hw:∀j,j<pre.size->∃e∈o.after,Region.binds md e=true/\e.on=j):
 ∀(fuel:Nat) (listed:Array Bool) (a:Act) (w:World),listed.size=pre.size->wpAny P md pre (Exit.then (wpList P (pre.push o) Q [o]) Q) fuel listed a w->wpAny P md (pre.push o) Q (fuel+1) (listed.push false) a w:=by
 have hsz:(pre.push o).size=pre.size+1:=by simp
 have hlast:(pre.push o)[pre.size]? =some o:=by simp
 have hbp:∀(j:Nat) (x:Oper),pre[j]? =some x->∀e∈x.after,e.on<j:=fun j x hx=>by
  have hlt:=(Array.getElem?_eq_some_iff.1 hx).1
  exact hb j x (by rw [Array.getElem?_push];simp [Nat.ne_of_lt hlt];exact hx)
 have hend:∀(fuel:Nat) (listed:Array Bool) (a:Act) (w:World),listed.size=pre.size->Region.ready md pre listed=[]->wpList P (pre.push o) Q [o] a w->wpAny P md (pre.push o) Q (fuel+1) (listed.push false) a w:=by
  intro fuel listed a w hls hr hq
  have hall:=Zfq hls hbp hr
  have hrd:pre.size∈Region.ready md (pre.push o) (listed.push false):=mem_ready.2 ⟨by rw [<-hls];exact ZcV _ _,o,hlast,fun e he _=>by
   have hlt:=hb pre.size o hlast e he
   have h1:=hall e.on hlt
   rw [Z3 _ _ _ (by omega)]
   have hz:e.on<listed.size:=by omega
   simp [hz] at h1 ⊢
   exact h1⟩
  refine⟨fun h=>(by rw [h] at hrd;cases hrd),fun i hi=>?_⟩
  have hi0:=mem_ready.1 hi
  have hie:i=pre.size:=by
   obtain⟨x,hx,_⟩:=hi0.2
   have hlt:=(Array.getElem?_eq_some_iff.1 hx).1
   rw [hsz] at hlt
   rcases Nat.lt_or_ge i pre.size with h1 | h1
   · have h2:=hi0.1
     rw [Z3 _ _ _ (by omega),hall i h1] at h2
     cases h2
   · omega
  subst hie
  unfold wpOp
  simp only [hlast]
  have hdone:∀a w,Q .normal a w->wpAny P md (pre.push o) Q fuel ((listed.push false).setIfInBounds pre.size true) a w:=fun a w h=>by
   refine wpAny_done ?_ h _
   refine List.eq_nil_iff_forall_not_mem.2 fun j hj=>?_
   have h0:=mem_ready.1 hj
   obtain⟨x,hx,_⟩:=h0.2
   have hlt:=(Array.getElem?_eq_some_iff.1 hx).1
   rw [hsz] at hlt
   have h2:=h0.1
   by_cases e:pre.size=j
   · subst e
     simp at h2
   · rw [getD_set_ne true e,Z3 _ _ _ (by omega),hall j (by omega)] at h2
     cases h2
  unfold wpList at hq
  split
  · rename_i hwt
    rw [if_pos hwt] at hq
    exact hq.imp (Oper.wp_mono (fun a w h=>hdone a w h)) id
  · rename_i hwt
    rw [if_neg hwt] at hq
    exact hdone _ _ hq
 intro fuel
 induction fuel with
 | zero=>intro listed a w hls h;exact hend 0 listed a w hls h.1 h.2
 | succ fuel ih=>
   intro listed a w hls h
   by_cases hr:Region.ready md pre listed=[]
   · exact hend (fuel+1) listed a w hls hr (h.1 hr)
   · have hin:∀i,i∈Region.ready md (pre.push o) (listed.push false)->i∈Region.ready md pre listed:=fun i hi=>by
      have hi0:=mem_ready.1 hi
      obtain⟨x,hx,hall⟩:=hi0.2
      have hlt:=(Array.getElem?_eq_some_iff.1 hx).1
      rw [hsz] at hlt
      rcases Nat.lt_or_ge i pre.size with h1 | h1
      · have hx':pre[i]? =some x:=by rw [Array.getElem?_push] at hx;simpa [Nat.ne_of_lt h1] using hx
        refine mem_ready.2 ⟨by have:=hi0.1;rwa [Z3 _ _ _ (by omega)] at this,x,hx',fun e he hbd=>?_⟩
        have h2:=hall e he hbd
        have h3:=hbp i x hx' e he
        rwa [Z3 _ _ _ (by omega)] at h2
      · exfalso
        have hie:i=pre.size:=by omega
        subst hie
        rw [hlast] at hx
        injection hx with hx
        subst hx
        refine hr (List.eq_nil_iff_forall_not_mem.2 fun j hj=>?_)
        have h0:=mem_ready.1 hj
        obtain⟨y,hy,_⟩:=h0.2
        have hjl:=(Array.getElem?_eq_some_iff.1 hy).1
        obtain⟨e,he,hbd,hej⟩:=hw j hjl
        have h2:=hall e he hbd
        rw [hej,Z3 _ _ _ (by omega)] at h2
        have h3:=h0.1
        have hz:j<listed.size:=by omega
        simp [hz] at h2 h3
        rw [h2] at h3
        cases h3
     refine⟨fun h0=>?_,fun i hi=>?_⟩
     · exfalso
       obtain⟨j,hj⟩:=List.exists_mem_of_ne_nil _ hr
       have h1:=mem_ready.1 hj
       obtain⟨y,hy,hall⟩:=h1.2
       have hjl:=(Array.getElem?_eq_some_iff.1 hy).1
       have hm:j∈Region.ready md (pre.push o) (listed.push false):=mem_ready.2 ⟨by rw [Z3 _ _ _ (by omega)];exact h1.1,y,by rw [Array.getElem?_push];simp [Nat.ne_of_lt hjl];exact hy,fun e he hbd=>by
        have h3:=hbp j y hy e he
        rw [Z3 _ _ _ (by omega)];exact hall e he hbd⟩
       rw [h0] at hm
       cases hm
     · have hi1:=hin i hi
       obtain⟨y,hy,_⟩:=(mem_ready.1 hi1).2
       have hil:=(Array.getElem?_eq_some_iff.1 hy).1
       refine wpOp_mono (fun a' w' h'=>?_) (ZhK hil (hg i) (h.2 i hi1))
       have e:(listed.push false).setIfInBounds i true=(listed.setIfInBounds i true).push false:=by
        apply Array.ext_getElem?
        intro k
        simp only [Array.getElem?_setIfInBounds,Array.getElem?_push,Array.size_setIfInBounds,Array.size_push]
        by_cases hik:i=k
        · subst hik;simp [hls,hil,Nat.ne_of_lt hil];omega
        · simp [hik]
       rw [e]
       exact ih _ a' w' (by simp [hls]) h'
def Zir:Array Bool->List Nat->Array Bool
 | listed,[]=>listed
 | listed,i::rest=>Zir (listed.setIfInBounds i true) rest
def ZcO(md:Region.Mode)(ops:Array Oper):Array Bool->List Nat->Bool
 | _,[]=>true
 | listed,i::rest=>Region.free md ops listed i && (Region.ready md ops listed).contains i && ZcO md ops (listed.setIfInBounds i true) rest
def Zdu(P:Program)(ops:Array Oper)(S:World->Prop)(K:Act->Prop):List Nat->Act->Prop
 | [],a=>K a
 | i::rest,a=>∃o,ops[i]? =some o/\∃v,YieldsIf P ops S o v a/\Zdu P ops S K rest (a.put o.dst v)
theorem Zby{P:Program}{md:Region.Mode}{Q:Exit->Act->World->Prop}{ops:Array Oper}{S:World->Prop}{K:Act->Prop}{w:World}(hs:Region.noSelect ops=true)(hQ:∀c a d v w,Q (.panic c) (a.put d v) w->Q (.panic c) a w)(hS:S w):
 ∀(calm:List Nat) (fuel:Nat) (listed:Array Bool) (a:Act),ZcO md ops listed calm=true->Zdu P ops S K calm a->(∀a',K a'->wpAnyH P md ops Q S fuel (Zir listed calm) a' w)->wpAnyH P md ops Q S (fuel+calm.length) listed a w
 | [],_,_,a,_,h,hk=>hk a h
 | i::rest,fuel,listed,a,hc,h,hk=>by
   obtain⟨o,ho,v,hy,hr⟩:=h
   simp only [ZcO,Bool.and_eq_true] at hc
   exact wpAnyH_take ho hs hc.1.1 hc.1.2 (fun c a w=>hQ c a o.dst v w) hy hS (Zby hs hQ hS rest fuel _ _ hc.2 hr hk)
theorem ZR{P:Program}{Q:Exit->Act->World->Prop}{ops:Array Oper}{id fuel:Nat}{S:World->Prop}{a:Act}{w:World}(calm:List Nat)(o:Oper)(ho:ops[ops.size-1]? =some o)(hm:P.follows .mixedOrders=true)(hf:ops.pop.size=fuel+calm.length)
 (hb:((List.range ops.size).all fun j=>(ops[j]?).all fun x=>x.after.all fun e=>decide (e.on<j))=true) (hg:(ops.pop.all fun x=>x.guard.isNone)=true)
 (hw:((List.range ops.pop.size).all fun j=>o.after.any fun e=>Region.binds .any e && e.on ==j)=true) (hs:Region.noSelect ops.pop=true)
 (hc:ZcO .any ops.pop (Array.replicate ops.pop.size false) calm=true) (hS:S w.drew)
 (h:S w.drew->Zdu P ops.pop S (fun a'=>wpAnyH P .any ops.pop (Exit.then (wpList P ops (NoPanic Q) [o]) (NoPanic Q)) S fuel (Zir (Array.replicate ops.pop.size false) calm) a' w.drew) calm a):(Code.region id ops true).wp P Q a w:=by
 have hne:0<ops.size:=by
  rcases Nat.eq_zero_or_pos ops.size with h0 | h0
  · rw [Array.getElem?_eq_none (by omega)] at ho;cases ho
  · exact h0
 have hops:ops=ops.pop.push o:=by
  apply Array.ext_getElem?
  intro k
  rw [Array.getElem?_push]
  by_cases hk:k=ops.pop.size
  · rw [if_pos hk,hk,Array.size_pop,ho]
  · rw [if_neg hk]
    rcases Nat.lt_or_ge k ops.pop.size with h1 | h1
    · rw [Array.getElem?_pop]
      simp at h1
      rw [if_pos h1]
    · rw [Array.getElem?_eq_none h1,Array.getElem?_eq_none]
      simp at h1 hk
      omega
 refine wp_region_noPanic ?_
 refine wp_region_any hm ?_
 have hz:ops.size=ops.pop.size+1:=by simp;omega
 have e:Array.replicate ops.size false=(Array.replicate ops.pop.size false).push false:=by rw [hz];simp [Array.replicate_succ]
 have hq:wpAny P .any ops.pop (Exit.then (wpList P (ops.pop.push o) (NoPanic Q) [o]) (NoPanic Q)) ops.pop.size (Array.replicate ops.pop.size false) a w.drew:=by
  rw [<-hops]
  refine wpAny_of_held (S:=S) _ _ _ _ ?_
  have h2:=Zby (P:=P) (md:=.any) (Q:=Exit.then (wpList P ops (NoPanic Q) [o]) (NoPanic Q)) (ops:=ops.pop) (S:=S) (w:=w.drew) hs (fun c a d v w h=>h) hS calm fuel (Array.replicate ops.pop.size false) a hc (h hS) (fun a' h'=>h')
  rw [<-hf] at h2
  exact h2
 rw [e,hz]
 have hend:=ZiS (P:=P) (md:=.any) (pre:=ops.pop) (o:=o) (Q:=NoPanic Q) ?_ ?_ ?_ ops.pop.size (Array.replicate ops.pop.size false) a w.drew (by simp) hq
 · rw [<-hops] at hend
   exact hend
 · rw [<-hops]
   intro j x hx e he
   have hlt:=(Array.getElem?_eq_some_iff.1 hx).1
   have h1:=List.all_eq_true.1 hb j (List.mem_range.2 hlt)
   rw [hx] at h1
   simp only [Option.all_some,Array.all_eq_true_iff_forall_mem] at h1
   simpa using h1 e he
 · intro i x hx
   have h1:=Array.all_eq_true_iff_forall_mem.1 hg x (Array.mem_of_getElem? hx)
   simpa using h1
 · intro j hj
   have h1:=List.all_eq_true.1 hw j (List.mem_range.2 hj)
   rw [Array.any_eq_true'] at h1
   obtain⟨e,he,h2⟩:=h1
   simp only [Bool.and_eq_true,beq_iff_eq] at h2
   exact⟨e,he,h2.1,h2.2⟩
theorem Zc{P:Program}{md:Region.Mode}{Q:Exit->Act->World->Prop}{ops:Array Oper}{S:World->Prop}{fuel:Nat}{listed:Array Bool}{a:Act}{w:World}{o:Oper}(i:Nat)(hr:Region.ready md ops listed=[i])(ho:ops[i]? =some o)
 (h:∀K:Act->World->Prop,Shut (∀a w,S w->(S w->wpAnyH P md ops Q S fuel (listed.setIfInBounds i true) a w)->K a w)->if Region.wanted o (yielded ops a.tmps)=true then Oper.wp P o a w K Q else K (a.put o.dst undef) w):wpAnyH P md ops Q S (fuel+1) listed a w:=
 wpAnyH_ready hr (by simp) (AllReadyH.cons ho h AllReadyH.nil)
theorem Zt{P:Program}{Q:Exit->Act->World->Prop}{ops:Array Oper}{id fuel:Nat}{S:World->Prop}{a:Act}{w:World}(calm:List Nat)(hm:P.follows .mixedOrders=true)(hf:ops.size=fuel+calm.length)(hs:Region.noSelect ops=true)
 (hc:ZcO .any ops (Array.replicate ops.size false) calm=true) (hS:S w.drew)
 (h:S w.drew->Zdu P ops S (fun a'=>wpAnyH P .any ops (NoPanic Q) S fuel (Zir (Array.replicate ops.size false) calm) a' w.drew) calm a):(Code.region id ops true).wp P Q a w:=by
 refine wp_region_noPanic ?_
 refine wp_region_held_drew (S:=S) hm hS (fun hS'=>?_)
 have h2:=Zby (P:=P) (md:=.any) (Q:=NoPanic Q) (ops:=ops) (S:=S) (w:=w.drew) hs (fun c a d v w h=>h) hS' calm fuel (Array.replicate ops.size false) a hc (h hS') (fun a' h'=>h')
 rw [<-hf] at h2
 exact h2
theorem ZB{P:Program}{Q:Exit->Act->World->Prop}{ops:Array Oper}{S:World->Prop}{listed:Array Bool}{a:Act}{w:World}{n:Nat}(calm:List Nat)(hn:calm.length=n)(hs:Region.noSelect ops=true)(hc:ZcO .any ops listed calm=true)(hd:Region.ready .any ops (Zir listed calm)=[])(hS:S w)
 (h:Zdu P ops S (fun a'=>NoPanic Q .normal a' w) calm a):wpAnyH P .any ops (NoPanic Q) S n listed a w:=by
 subst hn
 have h2:=Zby (P:=P) (md:=.any) (Q:=NoPanic Q) (ops:=ops) (S:=S) (w:=w) hs (fun c a d v w h=>h) hS calm 0 listed a hc h (fun a' h'=>wpAnyH_done hd h' 0)
 rw [Nat.zero_add] at h2
 exact h2
def Zfr(md:Region.Mode)(pre:Array Oper)(listed:Array Bool):Prop:=∀(i:Nat) (x:Oper),pre[i]? =some x->listed.getD i false=true->∀e∈x.after,Region.binds md e=true->listed.getD e.on false=true
theorem Zfr.start(md:Region.Mode)(pre:Array Oper):Zfr md pre (Array.replicate pre.size false):=fun i x hx h=>by
 have hlt:=(Array.getElem?_eq_some_iff.1 hx).1
 simp [hlt] at h
theorem Zfr.step{md:Region.Mode}{pre:Array Oper}{listed:Array Bool}(h:Zfr md pre listed){i:Nat}(hi:i∈Region.ready md pre listed):Zfr md pre (listed.setIfInBounds i true):=by
 have hset:∀k,listed.getD k false=true->(listed.setIfInBounds i true).getD k false=true:=fun k hk=>by
  simp only [Array.getD_eq_getD_getElem?,Array.getElem?_setIfInBounds] at hk ⊢
  by_cases h1:i=k
  · subst h1
    by_cases hl:i<listed.size
    · simp [hl]
    · simp [hl] at hk
  · simp only [h1,if_false];exact hk
 intro j x hx hj e he hb
 refine hset _ ?_
 by_cases hij:i=j
 · subst hij
   obtain⟨_,o,ho,hall⟩:=mem_ready.1 hi
   rw [hx] at ho
   injection ho with ho
   subst ho
   exact hall e he hb
 · refine h j x hx ?_ e he hb
   simp only [Array.getD_eq_getD_getElem?,Array.getElem?_setIfInBounds,hij,if_false] at hj ⊢
   exact hj
theorem ZhL{P:Program}{md:Region.Mode}{pre:Array Oper}{o:Oper}{Q:Exit->Act->World->Prop}(hb:∀(j:Nat) (x:Oper),(pre.push o)[j]? =some x->∀e∈x.after,e.on<j)(hg:∀(i:Nat) (x:Oper),pre[i]? =some x->x.guard=none)(hw:∀j,j<pre.size->(∃e∈o.after,Region.binds md e=true/\e.on=j)\/∃e∈o.after,Region.binds md e=true/\∃x,pre[e.on]? =some x/\∃e2∈x.after,Region.binds md e2=true/\e2.on=j):
 ∀(fuel:Nat) (listed:Array Bool) (a:Act) (w:World),listed.size=pre.size->Zfr md pre listed->wpAny P md pre (Exit.then (wpList P (pre.push o) Q [o]) Q) fuel listed a w->wpAny P md (pre.push o) Q (fuel+1) (listed.push false) a w:=by
 have hsz:(pre.push o).size=pre.size+1:=by simp
 have hlast:(pre.push o)[pre.size]? =some o:=by simp
 have hbp:∀(j:Nat) (x:Oper),pre[j]? =some x->∀e∈x.after,e.on<j:=fun j x hx=>by
  have hlt:=(Array.getElem?_eq_some_iff.1 hx).1
  exact hb j x (by rw [Array.getElem?_push];simp [Nat.ne_of_lt hlt];exact hx)
 have hend:∀(fuel:Nat) (listed:Array Bool) (a:Act) (w:World),listed.size=pre.size->Region.ready md pre listed=[]->wpList P (pre.push o) Q [o] a w->wpAny P md (pre.push o) Q (fuel+1) (listed.push false) a w:=by
  intro fuel listed a w hls hr hq
  have hall:=Zfq hls hbp hr
  have hrd:pre.size∈Region.ready md (pre.push o) (listed.push false):=mem_ready.2 ⟨by rw [<-hls];exact ZcV _ _,o,hlast,fun e he _=>by
   have hlt:=hb pre.size o hlast e he
   have h1:=hall e.on hlt
   rw [Z3 _ _ _ (by omega)]
   have hz:e.on<listed.size:=by omega
   simp [hz] at h1 ⊢
   exact h1⟩
  refine⟨fun h=>(by rw [h] at hrd;cases hrd),fun i hi=>?_⟩
  have hi0:=mem_ready.1 hi
  have hie:i=pre.size:=by
   obtain⟨x,hx,_⟩:=hi0.2
   have hlt:=(Array.getElem?_eq_some_iff.1 hx).1
   rw [hsz] at hlt
   rcases Nat.lt_or_ge i pre.size with h1 | h1
   · have h2:=hi0.1
     rw [Z3 _ _ _ (by omega),hall i h1] at h2
     cases h2
   · omega
  subst hie
  unfold wpOp
  simp only [hlast]
  have hdone:∀a w,Q .normal a w->wpAny P md (pre.push o) Q fuel ((listed.push false).setIfInBounds pre.size true) a w:=fun a w h=>by
   refine wpAny_done ?_ h _
   refine List.eq_nil_iff_forall_not_mem.2 fun j hj=>?_
   have h0:=mem_ready.1 hj
   obtain⟨x,hx,_⟩:=h0.2
   have hlt:=(Array.getElem?_eq_some_iff.1 hx).1
   rw [hsz] at hlt
   have h2:=h0.1
   by_cases e:pre.size=j
   · subst e
     simp at h2
   · rw [getD_set_ne true e,Z3 _ _ _ (by omega),hall j (by omega)] at h2
     cases h2
  unfold wpList at hq
  split
  · rename_i hwt
    rw [if_pos hwt] at hq
    exact hq.imp (Oper.wp_mono (fun a w h=>hdone a w h)) id
  · rename_i hwt
    rw [if_neg hwt] at hq
    exact hdone _ _ hq
 intro fuel
 induction fuel with
 | zero=>intro listed a w hls _ h;exact hend 0 listed a w hls h.1 h.2
 | succ fuel ih=>
   intro listed a w hls hcl h
   by_cases hr:Region.ready md pre listed=[]
   · exact hend (fuel+1) listed a w hls hr (h.1 hr)
   · have hin:∀i,i∈Region.ready md (pre.push o) (listed.push false)->i∈Region.ready md pre listed:=fun i hi=>by
      have hi0:=mem_ready.1 hi
      obtain⟨x,hx,hall⟩:=hi0.2
      have hlt:=(Array.getElem?_eq_some_iff.1 hx).1
      rw [hsz] at hlt
      rcases Nat.lt_or_ge i pre.size with h1 | h1
      · have hx':pre[i]? =some x:=by rw [Array.getElem?_push] at hx;simpa [Nat.ne_of_lt h1] using hx
        refine mem_ready.2 ⟨by have:=hi0.1;rwa [Z3 _ _ _ (by omega)] at this,x,hx',fun e he hbd=>?_⟩
        have h2:=hall e he hbd
        have h3:=hbp i x hx' e he
        rwa [Z3 _ _ _ (by omega)] at h2
      · exfalso
        have hie:i=pre.size:=by omega
        subst hie
        rw [hlast] at hx
        injection hx with hx
        subst hx
        refine hr (List.eq_nil_iff_forall_not_mem.2 fun j hj=>?_)
        have h0:=mem_ready.1 hj
        obtain⟨y,hy,_⟩:=h0.2
        have hjl:=(Array.getElem?_eq_some_iff.1 hy).1
        have hz:j<listed.size:=by omega
        have h3:=h0.1
        rcases hw j hjl with ⟨e,he,hbd,hej⟩ | ⟨e,he,hbd,x,hx,e2,he2,hbd2,hej⟩
        · have h2:=hall e he hbd
          rw [hej,Z3 _ _ _ (by omega)] at h2
          simp [hz] at h2 h3
          rw [h2] at h3
          cases h3
        · have h2:=hall e he hbd
          have hel:=(Array.getElem?_eq_some_iff.1 hx).1
          rw [Z3 _ _ _ (by omega)] at h2
          have h4:=hcl e.on x hx h2 e2 he2 hbd2
          rw [hej] at h4
          simp [hz] at h4 h3
          rw [h4] at h3
          cases h3
     refine⟨fun h0=>?_,fun i hi=>?_⟩
     · exfalso
       obtain⟨j,hj⟩:=List.exists_mem_of_ne_nil _ hr
       have h1:=mem_ready.1 hj
       obtain⟨y,hy,hall⟩:=h1.2
       have hjl:=(Array.getElem?_eq_some_iff.1 hy).1
       have hm:j∈Region.ready md (pre.push o) (listed.push false):=mem_ready.2 ⟨by rw [Z3 _ _ _ (by omega)];exact h1.1,y,by rw [Array.getElem?_push];simp [Nat.ne_of_lt hjl];exact hy,fun e he hbd=>by
        have h3:=hbp j y hy e he
        rw [Z3 _ _ _ (by omega)];exact hall e he hbd⟩
       rw [h0] at hm
       cases hm
     · have hi1:=hin i hi
       obtain⟨y,hy,_⟩:=(mem_ready.1 hi1).2
       have hil:=(Array.getElem?_eq_some_iff.1 hy).1
       refine wpOp_mono (fun a' w' h'=>?_) (ZhK hil (hg i) (h.2 i hi1))
       have e:(listed.push false).setIfInBounds i true=(listed.setIfInBounds i true).push false:=by
        apply Array.ext_getElem?
        intro k
        simp only [Array.getElem?_setIfInBounds,Array.getElem?_push,Array.size_setIfInBounds,Array.size_push]
        by_cases hik:i=k
        · subst hik;simp [hls,hil,Nat.ne_of_lt hil];omega
        · simp [hik]
       rw [e]
       exact ih _ a' w' (by simp [hls]) (hcl.step hi1) h'
theorem ZT{P:Program}{Q:Exit->Act->World->Prop}{ops:Array Oper}{id fuel:Nat}{S:World->Prop}{a:Act}{w:World}(calm:List Nat)(o:Oper)(ho:ops[ops.size-1]? =some o)(hm:P.follows .mixedOrders=true)(hf:ops.pop.size=fuel+calm.length)
 (hb:((List.range ops.size).all fun j=>(ops[j]?).all fun x=>x.after.all fun e=>decide (e.on<j))=true) (hg:(ops.pop.all fun x=>x.guard.isNone)=true)
 (hw:((List.range ops.pop.size).all fun j=>o.after.any fun e=>Region.binds .any e && (e.on ==j || (ops.pop[e.on]?).any fun x=>x.after.any fun e2=>Region.binds .any e2 && e2.on ==j))=true) (hs:Region.noSelect ops.pop=true)
 (hc:ZcO .any ops.pop (Array.replicate ops.pop.size false) calm=true) (hS:S w.drew)
 (h:S w.drew->Zdu P ops.pop S (fun a'=>wpAnyH P .any ops.pop (Exit.then (wpList P ops (NoPanic Q) [o]) (NoPanic Q)) S fuel (Zir (Array.replicate ops.pop.size false) calm) a' w.drew) calm a):(Code.region id ops true).wp P Q a w:=by
 have hne:0<ops.size:=by
  rcases Nat.eq_zero_or_pos ops.size with h0 | h0
  · rw [Array.getElem?_eq_none (by omega)] at ho;cases ho
  · exact h0
 have hops:ops=ops.pop.push o:=by
  apply Array.ext_getElem?
  intro k
  rw [Array.getElem?_push]
  by_cases hk:k=ops.pop.size
  · rw [if_pos hk,hk,Array.size_pop,ho]
  · rw [if_neg hk]
    rcases Nat.lt_or_ge k ops.pop.size with h1 | h1
    · rw [Array.getElem?_pop]
      simp at h1
      rw [if_pos h1]
    · rw [Array.getElem?_eq_none h1,Array.getElem?_eq_none]
      simp at h1 hk
      omega
 refine wp_region_noPanic ?_
 refine wp_region_any hm ?_
 have hz:ops.size=ops.pop.size+1:=by simp;omega
 have e:Array.replicate ops.size false=(Array.replicate ops.pop.size false).push false:=by rw [hz];simp [Array.replicate_succ]
 have hq:wpAny P .any ops.pop (Exit.then (wpList P (ops.pop.push o) (NoPanic Q) [o]) (NoPanic Q)) ops.pop.size (Array.replicate ops.pop.size false) a w.drew:=by
  rw [<-hops]
  refine wpAny_of_held (S:=S) _ _ _ _ ?_
  have h2:=Zby (P:=P) (md:=.any) (Q:=Exit.then (wpList P ops (NoPanic Q) [o]) (NoPanic Q)) (ops:=ops.pop) (S:=S) (w:=w.drew) hs (fun c a d v w h=>h) hS calm fuel (Array.replicate ops.pop.size false) a hc (h hS) (fun a' h'=>h')
  rw [<-hf] at h2
  exact h2
 rw [e,hz]
 have hend:=ZhL (P:=P) (md:=.any) (pre:=ops.pop) (o:=o) (Q:=NoPanic Q) ?_ ?_ ?_ ops.pop.size (Array.replicate ops.pop.size false) a w.drew (by simp) (Zfr.start .any ops.pop) hq
 · rw [<-hops] at hend
   exact hend
 · rw [<-hops]
   intro j x hx e he
   have hlt:=(Array.getElem?_eq_some_iff.1 hx).1
   have h1:=List.all_eq_true.1 hb j (List.mem_range.2 hlt)
   rw [hx] at h1
   simp only [Option.all_some,Array.all_eq_true_iff_forall_mem] at h1
   simpa using h1 e he
 · intro i x hx
   have h1:=Array.all_eq_true_iff_forall_mem.1 hg x (Array.mem_of_getElem? hx)
   simpa using h1
 · intro j hj
   have h1:=List.all_eq_true.1 hw j (List.mem_range.2 hj)
   rw [Array.any_eq_true'] at h1
   obtain⟨e,he,h2⟩:=h1
   simp only [Bool.and_eq_true,Bool.or_eq_true,beq_iff_eq] at h2
   rcases h2.2 with h3 | h3
   · exact Or.inl ⟨e,he,h2.1,h3⟩
   · cases hx:ops.pop[e.on]? with
     | none=>rw [hx] at h3;cases h3
     | some x=>
       rw [hx,Option.any_some,Array.any_eq_true'] at h3
       obtain⟨e2,he2,h4⟩:=h3
       simp only [Bool.and_eq_true,beq_iff_eq] at h4
       exact Or.inr ⟨e,he,h2.1,x,hx,e2,he2,h4.1,h4.2⟩
end Go.Proofs.YtaaagmgglolibaaGreat
