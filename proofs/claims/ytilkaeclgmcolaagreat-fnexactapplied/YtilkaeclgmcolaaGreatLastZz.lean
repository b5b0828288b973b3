import Derived.Deep.RegionHeld3
namespace Go.Proofs.YtilkaeclgmcolaaGreat
open Go
theorem Zk8{P:Program}{Q:Exit->Act->World->Prop}{x:Oper}{a:Act}{K next:Act->World->Prop}{r:Result Next}(h:Oper.upon P x a K (Exit.then next Q) r):Oper.upon P x a K Q r:=by
 cases r with
 | ok n w=>cases n <;> exact h
 | halt y w=>cases y <;> exact h
theorem Zio{P:Program}{pre:Array Oper}{o:Oper}{Q:Exit->Act->World->Prop}{i:Nat}{K next:Act->World->Prop}{a:Act}{w:World}(hi:i<pre.size)(hg:∀x:Oper,pre[i]? =some x->x.guard=none)(h:wpOp P pre (Exit.then next Q) i K a w):wpOp P (pre.push o) Q i K a w:=by
 unfold wpOp at *
 have e:(pre.push o)[i]? =pre[i]? :=by rw [Array.getElem?_push];simp [Nat.ne_of_lt hi]
 rw [e]
 cases hx:pre[i]? with
 | none=>simp only [hx] at h;exact h
 | some x=>
   simp only [hx] at h
   have b:∀y,Region.wanted x y=true:=fun y=>by simp [Region.wanted,hg x hx]
   simp only [b,if_true] at h ⊢
   exact h.imp Zk8 id
theorem Z5(listed:Array Bool)(k:Nat)(d:Bool)(h:k<listed.size):(listed.push false).getD k d=listed.getD k d:=by
 simp [Array.getElem?_push,Nat.ne_of_lt h]
theorem Zda(listed:Array Bool)(d:Bool):(listed.push false).getD listed.size d=false:=by simp
theorem ZfT{md:Region.Mode}{ops:Array Oper}{listed:Array Bool}(hs:listed.size=ops.size)(hb:∀(j:Nat) (x:Oper),ops[j]? =some x->∀e∈x.after,e.on<j)(hr:Region.ready md ops listed=[]):∀j,j<ops.size->listed.getD j true=true:=by
 intro j
 induction j using Nat.strongRecOn with
 | _ j ih=>
   intro g
   cases hl:listed.getD j true with
   | true=>rfl
   | false=>
     have f:ops[j]? =some ops[j]:=Array.getElem?_eq_getElem g
     have c:j∈Region.ready md ops listed:=mem_ready.2 ⟨hl,ops[j],f,fun e h _=>by
      have b:=hb j ops[j] f e h
      have d:=ih e.on b (by omega)
      have a:e.on<listed.size:=by omega
      simp [a] at d ⊢
      exact d⟩
     rw [hr] at c
     cases c
theorem Zju{P:Program}{md:Region.Mode}{pre:Array Oper}{o:Oper}{Q:Exit->Act->World->Prop}(hb:∀(j:Nat) (x:Oper),(pre.push o)[j]? =some x->∀e∈x.after,e.on<j)(hg:∀(i:Nat) (x:Oper),pre[i]? =some x->x.guard=none)(hw:∀j,j<pre.size->∃e∈o.after,Region.binds md e=true/\e.on=j):
 ∀(fuel:Nat) (listed:Array Bool) (a:Act) (w:World),listed.size=pre.size->wpAny P md pre (Exit.then (wpList P (pre.push o) Q [o]) Q) fuel listed a w->wpAny P md (pre.push o) Q (fuel+1) (listed.push false) a w:=by
 have t:(pre.push o).size=pre.size+1:=by simp
 have c:(pre.push o)[pre.size]? =some o:=by simp
 have v:∀(j:Nat) (x:Oper),pre[j]? =some x->∀e∈x.after,e.on<j:=fun j x g=>by
  have d:=(Array.getElem?_eq_some_iff.1 g).1
  exact hb j x (by rw [Array.getElem?_push];simp [Nat.ne_of_lt d];exact g)
 have s:∀(fuel:Nat) (listed:Array Bool) (a:Act) (w:World),listed.size=pre.size->Region.ready md pre listed=[]->wpList P (pre.push o) Q [o] a w->wpAny P md (pre.push o) Q (fuel+1) (listed.push false) a w:=by
  intro fuel listed a w f D F
  have b:=ZfT f v D
  have I:pre.size∈Region.ready md (pre.push o) (listed.push false):=mem_ready.2 ⟨by rw [<-f];exact Zda _ _,o,c,fun e r _=>by
   have d:=hb pre.size o c e r
   have p:=b e.on d
   rw [Z5 _ _ _ (by omega)]
   have M:e.on<listed.size:=by omega
   simp [M] at p ⊢
   exact p⟩
  refine⟨fun h=>(by rw [h] at I;cases I),fun i H=>?_⟩
  have q:=mem_ready.1 H
  have u:i=pre.size:=by
   obtain⟨x,g,_⟩:=q.2
   have d:=(Array.getElem?_eq_some_iff.1 g).1
   rw [t] at d
   rcases Nat.lt_or_ge i pre.size with p | p
   · have l:=q.1
     rw [Z5 _ _ _ (by omega),b i p] at l
     cases l
   · omega
  subst u
  unfold wpOp
  simp only [c]
  have m:∀a w,Q .normal a w->wpAny P md (pre.push o) Q fuel ((listed.push false).setIfInBounds pre.size true) a w:=fun a w h=>by
   refine wpAny_done ?_ h _
   refine List.eq_nil_iff_forall_not_mem.2 fun j G=>?_
   have A:=mem_ready.1 G
   obtain⟨x,g,_⟩:=A.2
   have d:=(Array.getElem?_eq_some_iff.1 g).1
   rw [t] at d
   have l:=A.1
   by_cases e:pre.size=j
   · subst e
     simp at l
   · rw [getD_set_ne true e,Z5 _ _ _ (by omega),b j (by omega)] at l
     cases l
  unfold wpList at F
  split
  · rename_i hwt
    rw [if_pos hwt] at F
    exact F.imp (Oper.wp_mono (fun a w h=>m a w h)) id
  · rename_i hwt
    rw [if_neg hwt] at F
    exact m _ _ F
 intro fuel
 induction fuel with
 | zero=>intro listed a w f h;exact s 0 listed a w f h.1 h.2
 | succ fuel ih=>
   intro listed a w f h
   by_cases D:Region.ready md pre listed=[]
   · exact s (fuel+1) listed a w f D (h.1 D)
   · have L:∀i,i∈Region.ready md (pre.push o) (listed.push false)->i∈Region.ready md pre listed:=fun i H=>by
      have q:=mem_ready.1 H
      obtain⟨x,g,b⟩:=q.2
      have d:=(Array.getElem?_eq_some_iff.1 g).1
      rw [t] at d
      rcases Nat.lt_or_ge i pre.size with p | p
      · have K:pre[i]? =some x:=by rw [Array.getElem?_push] at g;simpa [Nat.ne_of_lt p] using g
        refine mem_ready.2 ⟨by have:=q.1;rwa [Z5 _ _ _ (by omega)] at this,x,K,fun e r n=>?_⟩
        have l:=b e r n
        have J:=v i x K e r
        rwa [Z5 _ _ _ (by omega)] at l
      · exfalso
        have u:i=pre.size:=by omega
        subst u
        rw [c] at g
        injection g with g
        subst g
        refine D (List.eq_nil_iff_forall_not_mem.2 fun j G=>?_)
        have A:=mem_ready.1 G
        obtain⟨y,z,_⟩:=A.2
        have B:=(Array.getElem?_eq_some_iff.1 z).1
        obtain⟨e,r,n,N⟩:=hw j B
        have l:=b e r n
        rw [N,Z5 _ _ _ (by omega)] at l
        have J:=A.1
        have M:j<listed.size:=by omega
        simp [M] at l J
        rw [l] at J
        cases J
     refine⟨fun A=>?_,fun i H=>?_⟩
     · exfalso
       obtain⟨j,G⟩:=List.exists_mem_of_ne_nil _ D
       have p:=mem_ready.1 G
       obtain⟨y,z,b⟩:=p.2
       have B:=(Array.getElem?_eq_some_iff.1 z).1
       have O:j∈Region.ready md (pre.push o) (listed.push false):=mem_ready.2 ⟨by rw [Z5 _ _ _ (by omega)];exact p.1,y,by rw [Array.getElem?_push];simp [Nat.ne_of_lt B];exact z,fun e r n=>by
        have J:=v j y z e r
        rw [Z5 _ _ _ (by omega)];exact b e r n⟩
       rw [A] at O
       cases O
     · have E:=L i H
       obtain⟨y,z,_⟩:=(mem_ready.1 E).2
       have C:=(Array.getElem?_eq_some_iff.1 z).1
       refine wpOp_mono (fun T R S=>?_) (Zio C (hg i) (h.2 i E))
       have e:(listed.push false).setIfInBounds i true=(listed.setIfInBounds i true).push false:=by
        apply Array.ext_getElem?
        intro k
        simp only [Array.getElem?_setIfInBounds,Array.getElem?_push,Array.size_setIfInBounds,Array.size_push]
        by_cases hik:i=k
        · subst hik;simp [f,C,Nat.ne_of_lt C];omega
        · simp [hik]
       rw [e]
       exact ih _ T R (by simp [f]) S
def Zi9:Array Bool->List Nat->Array Bool
 | listed,[]=>listed
 | listed,i::rest=>Zi9 (listed.setIfInBounds i true) rest
def Zc3(md:Region.Mode)(ops:Array Oper):Array Bool->List Nat->Bool
 | _,[]=>true
 | listed,i::rest=>Region.free md ops listed i && (Region.ready md ops listed).contains i && Zc3 md ops (listed.setIfInBounds i true) rest
def ZdK(P:Program)(ops:Array Oper)(S:World->Prop)(K:Act->Prop):List Nat->Act->Prop
 | [],a=>K a
 | i::rest,a=>∃o,ops[i]? =some o/\∃v,YieldsIf P ops S o v a/\ZdK P ops S K rest (a.put o.dst v)
theorem Zby{P:Program}{md:Region.Mode}{Q:Exit->Act->World->Prop}{ops:Array Oper}{S:World->Prop}{K:Act->Prop}{w:World}(hs:Region.noSelect ops=true)(hQ:∀c a d v w,Q (.panic c) (a.put d v) w->Q (.panic c) a w)(hS:S w):
 ∀(calm:List Nat) (fuel:Nat) (listed:Array Bool) (a:Act),Zc3 md ops listed calm=true->ZdK P ops S K calm a->(∀a',K a'->wpAnyH P md ops Q S fuel (Zi9 listed calm) a' w)->wpAnyH P md ops Q S (fuel+calm.length) listed a w
 | [],_,_,a,_,h,hk=>hk a h
 | i::rest,fuel,listed,a,hc,h,hk=>by
   obtain⟨o,ho,v,hy,hr⟩:=h
   simp only [Zc3,Bool.and_eq_true] at hc
   exact wpAnyH_take ho hs hc.1.1 hc.1.2 (fun c a w=>hQ c a o.dst v w) hy hS (Zby hs hQ hS rest fuel _ _ hc.2 hr hk)
theorem Zao{P:Program}{Q:Exit->Act->World->Prop}{ops:Array Oper}{id fuel:Nat}{S:World->Prop}{a:Act}{w:World}(calm:List Nat)(o:Oper)(ho:ops[ops.size-1]? =some o)(hm:P.follows .mixedOrders=true)(hf:ops.pop.size=fuel+calm.length)
 (hb:((List.range ops.size).all fun j=>(ops[j]?).all fun x=>x.after.all fun e=>decide (e.on<j))=true) (hg:(ops.pop.all fun x=>x.guard.isNone)=true)
 (hw:((List.range ops.pop.size).all fun j=>o.after.any fun e=>Region.binds .any e && e.on ==j)=true) (hs:Region.noSelect ops.pop=true)
 (hc:Zc3 .any ops.pop (Array.replicate ops.pop.size false) calm=true) (hS:S w.drew)
 (h:S w.drew->ZdK P ops.pop S (fun a'=>wpAnyH P .any ops.pop (Exit.then (wpList P ops (NoPanic Q) [o]) (NoPanic Q)) S fuel (Zi9 (Array.replicate ops.pop.size false) calm) a' w.drew) calm a):(Code.region id ops true).wp P Q a w:=by
 have s:0<ops.size:=by
  rcases Nat.eq_zero_or_pos ops.size with h0 | h0
  · rw [Array.getElem?_eq_none (by omega)] at ho;cases ho
  · exact h0
 have f:ops=ops.pop.push o:=by
  apply Array.ext_getElem?
  intro k
  rw [Array.getElem?_push]
  by_cases hk:k=ops.pop.size
  · rw [if_pos hk,hk,Array.size_pop,ho]
  · rw [if_neg hk]
    rcases Nat.lt_or_ge k ops.pop.size with b | b
    · rw [Array.getElem?_pop]
      simp at b
      rw [if_pos b]
    · rw [Array.getElem?_eq_none b,Array.getElem?_eq_none]
      simp at b hk
      omega
 refine wp_region_noPanic ?_
 refine wp_region_any hm ?_
 have q:ops.size=ops.pop.size+1:=by simp;omega
 have e:Array.replicate ops.size false=(Array.replicate ops.pop.size false).push false:=by rw [q];simp [Array.replicate_succ]
 have u:wpAny P .any ops.pop (Exit.then (wpList P (ops.pop.push o) (NoPanic Q) [o]) (NoPanic Q)) ops.pop.size (Array.replicate ops.pop.size false) a w.drew:=by
  rw [<-f]
  refine wpAny_of_held (S:=S) _ _ _ _ ?_
  have l:=Zby (P:=P) (md:=.any) (Q:=Exit.then (wpList P ops (NoPanic Q) [o]) (NoPanic Q)) (ops:=ops.pop) (S:=S) (w:=w.drew) hs (fun c a d v w h=>h) hS calm fuel (Array.replicate ops.pop.size false) a hc (h hS) (fun a' t=>t)
  rw [<-hf] at l
  exact l
 rw [e,q]
 have g:=Zju (P:=P) (md:=.any) (pre:=ops.pop) (o:=o) (Q:=NoPanic Q) ?_ ?_ ?_ ops.pop.size (Array.replicate ops.pop.size false) a w.drew (by simp) u
 · rw [<-f] at g
   exact g
 · rw [<-f]
   intro j x m e n
   have p:=(Array.getElem?_eq_some_iff.1 m).1
   have b:=List.all_eq_true.1 hb j (List.mem_range.2 p)
   rw [m] at b
   simp only [Option.all_some,Array.all_eq_true_iff_forall_mem] at b
   simpa using b e n
 · intro i x m
   have b:=Array.all_eq_true_iff_forall_mem.1 hg x (Array.mem_of_getElem? m)
   simpa using b
 · intro j r
   have b:=List.all_eq_true.1 hw j (List.mem_range.2 r)
   rw [Array.any_eq_true'] at b
   obtain⟨e,n,l⟩:=b
   simp only [Bool.and_eq_true,beq_iff_eq] at l
   exact⟨e,n,l.1,l.2⟩
theorem Zc{P:Program}{md:Region.Mode}{Q:Exit->Act->World->Prop}{ops:Array Oper}{S:World->Prop}{fuel:Nat}{listed:Array Bool}{a:Act}{w:World}{o:Oper}(i:Nat)(hr:Region.ready md ops listed=[i])(ho:ops[i]? =some o)
 (h:∀K:Act->World->Prop,Shut (∀a w,S w->(S w->wpAnyH P md ops Q S fuel (listed.setIfInBounds i true) a w)->K a w)->if Region.wanted o (yielded ops a.tmps)=true then Oper.wp P o a w K Q else K (a.put o.dst undef) w):wpAnyH P md ops Q S (fuel+1) listed a w:=
 wpAnyH_ready hr (by simp) (AllReadyH.cons ho h AllReadyH.nil)
theorem Zl{P:Program}{Q:Exit->Act->World->Prop}{ops:Array Oper}{id fuel:Nat}{S:World->Prop}{a:Act}{w:World}(calm:List Nat)(hm:P.follows .mixedOrders=true)(hf:ops.size=fuel+calm.length)(hs:Region.noSelect ops=true)
 (hc:Zc3 .any ops (Array.replicate ops.size false) calm=true) (hS:S w.drew)
 (h:S w.drew->ZdK P ops S (fun a'=>wpAnyH P .any ops (NoPanic Q) S fuel (Zi9 (Array.replicate ops.size false) calm) a' w.drew) calm a):(Code.region id ops true).wp P Q a w:=by
 refine wp_region_noPanic ?_
 refine wp_region_held_drew (S:=S) hm hS (fun b=>?_)
 have e:=Zby (P:=P) (md:=.any) (Q:=NoPanic Q) (ops:=ops) (S:=S) (w:=w.drew) hs (fun c a d v w h=>h) b calm fuel (Array.replicate ops.size false) a hc (h b) (fun a' f=>f)
 rw [<-hf] at e
 exact e
theorem ZB{P:Program}{Q:Exit->Act->World->Prop}{ops:Array Oper}{S:World->Prop}{listed:Array Bool}{a:Act}{w:World}{n:Nat}(calm:List Nat)(hn:calm.length=n)(hs:Region.noSelect ops=true)(hc:Zc3 .any ops listed calm=true)(hd:Region.ready .any ops (Zi9 listed calm)=[])(hS:S w)
 (h:ZdK P ops S (fun a'=>NoPanic Q .normal a' w) calm a):wpAnyH P .any ops (NoPanic Q) S n listed a w:=by
 subst hn
 have b:=Zby (P:=P) (md:=.any) (Q:=NoPanic Q) (ops:=ops) (S:=S) (w:=w) hs (fun c a d v w h=>h) hS calm 0 listed a hc h (fun a' e=>wpAnyH_done hd e 0)
 rw [Nat.zero_add] at b
 exact b
def ZfU(md:Region.Mode)(pre:Array Oper)(listed:Array Bool):Prop:=∀(i:Nat) (x:Oper),pre[i]? =some x->listed.getD i false=true->∀e∈x.after,Region.binds md e=true->listed.getD e.on false=true
theorem ZfU.start(md:Region.Mode)(pre:Array Oper):ZfU md pre (Array.replicate pre.size false):=fun i x hx h=>by
 have hlt:=(Array.getElem?_eq_some_iff.1 hx).1
 simp [hlt] at h
theorem ZfU.step{md:Region.Mode}{pre:Array Oper}{listed:Array Bool}(h:ZfU md pre listed){i:Nat}(hi:i∈Region.ready md pre listed):ZfU md pre (listed.setIfInBounds i true):=by
 have b:∀k,listed.getD k false=true->(listed.setIfInBounds i true).getD k false=true:=fun k d=>by
  simp only [Array.getD_eq_getD_getElem?,Array.getElem?_setIfInBounds] at d ⊢
  by_cases h1:i=k
  · subst h1
    by_cases hl:i<listed.size
    · simp [hl]
    · simp [hl] at d
  · simp only [h1,if_false];exact d
 intro j x m g e l f
 refine b _ ?_
 by_cases hij:i=j
 · subst hij
   obtain⟨_,o,c,a⟩:=mem_ready.1 hi
   rw [m] at c
   injection c with c
   subst c
   exact a e l f
 · refine h j x m ?_ e l f
   simp only [Array.getD_eq_getD_getElem?,Array.getElem?_setIfInBounds,hij,if_false] at g ⊢
   exact g
theorem Zip{P:Program}{md:Region.Mode}{pre:Array Oper}{o:Oper}{Q:Exit->Act->World->Prop}(hb:∀(j:Nat) (x:Oper),(pre.push o)[j]? =some x->∀e∈x.after,e.on<j)(hg:∀(i:Nat) (x:Oper),pre[i]? =some x->x.guard=none)(hw:∀j,j<pre.size->(∃e∈o.after,Region.binds md e=true/\e.on=j)\/∃e∈o.after,Region.binds md e=true/\∃x,pre[e.on]? =some x/\∃e2∈x.after,Region.binds md e2=true/\e2.on=j):
 ∀(fuel:Nat) (listed:Array Bool) (a:Act) (w:World),listed.size=pre.size->ZfU md pre listed->wpAny P md pre (Exit.then (wpList P (pre.push o) Q [o]) Q) fuel listed a w->wpAny P md (pre.push o) Q (fuel+1) (listed.push false) a w:=by
 have u:(pre.push o).size=pre.size+1:=by simp
 have c:(pre.push o)[pre.size]? =some o:=by simp
 have A:∀(j:Nat) (x:Oper),pre[j]? =some x->∀e∈x.after,e.on<j:=fun j x g=>by
  have d:=(Array.getElem?_eq_some_iff.1 g).1
  exact hb j x (by rw [Array.getElem?_push];simp [Nat.ne_of_lt d];exact g)
 have t:∀(fuel:Nat) (listed:Array Bool) (a:Act) (w:World),listed.size=pre.size->Region.ready md pre listed=[]->wpList P (pre.push o) Q [o] a w->wpAny P md (pre.push o) Q (fuel+1) (listed.push false) a w:=by
  intro fuel listed a w f F G
  have b:=ZfT f A F
  have J:pre.size∈Region.ready md (pre.push o) (listed.push false):=mem_ready.2 ⟨by rw [<-f];exact Zda _ _,o,c,fun e p _=>by
   have d:=hb pre.size o c e p
   have q:=b e.on d
   rw [Z5 _ _ _ (by omega)]
   have M:e.on<listed.size:=by omega
   simp [M] at q ⊢
   exact q⟩
  refine⟨fun h=>(by rw [h] at J;cases J),fun i I=>?_⟩
  have r:=mem_ready.1 I
  have z:i=pre.size:=by
   obtain⟨x,g,_⟩:=r.2
   have d:=(Array.getElem?_eq_some_iff.1 g).1
   rw [u] at d
   rcases Nat.lt_or_ge i pre.size with q | q
   · have l:=r.1
     rw [Z5 _ _ _ (by omega),b i q] at l
     cases l
   · omega
  subst z
  unfold wpOp
  simp only [c]
  have n:∀a w,Q .normal a w->wpAny P md (pre.push o) Q fuel ((listed.push false).setIfInBounds pre.size true) a w:=fun a w h=>by
   refine wpAny_done ?_ h _
   refine List.eq_nil_iff_forall_not_mem.2 fun j H=>?_
   have C:=mem_ready.1 H
   obtain⟨x,g,_⟩:=C.2
   have d:=(Array.getElem?_eq_some_iff.1 g).1
   rw [u] at d
   have l:=C.1
   by_cases e:pre.size=j
   · subst e
     simp at l
   · rw [getD_set_ne true e,Z5 _ _ _ (by omega),b j (by omega)] at l
     cases l
  unfold wpList at G
  split
  · rename_i hwt
    rw [if_pos hwt] at G
    exact G.imp (Oper.wp_mono (fun a w h=>n a w h)) id
  · rename_i hwt
    rw [if_neg hwt] at G
    exact n _ _ G
 intro fuel
 induction fuel with
 | zero=>intro listed a w f _ h;exact t 0 listed a w f h.1 h.2
 | succ fuel ih=>
   intro listed a w f K h
   by_cases F:Region.ready md pre listed=[]
   · exact t (fuel+1) listed a w f F (h.1 F)
   · have N:∀i,i∈Region.ready md (pre.push o) (listed.push false)->i∈Region.ready md pre listed:=fun i I=>by
      have r:=mem_ready.1 I
      obtain⟨x,g,b⟩:=r.2
      have d:=(Array.getElem?_eq_some_iff.1 g).1
      rw [u] at d
      rcases Nat.lt_or_ge i pre.size with q | q
      · have L:pre[i]? =some x:=by rw [Array.getElem?_push] at g;simpa [Nat.ne_of_lt q] using g
        refine mem_ready.2 ⟨by have:=r.1;rwa [Z5 _ _ _ (by omega)] at this,x,L,fun e p m=>?_⟩
        have l:=b e p m
        have s:=A i x L e p
        rwa [Z5 _ _ _ (by omega)] at l
      · exfalso
        have z:i=pre.size:=by omega
        subst z
        rw [c] at g
        injection g with g
        subst g
        refine F (List.eq_nil_iff_forall_not_mem.2 fun j H=>?_)
        have C:=mem_ready.1 H
        obtain⟨y,B,_⟩:=C.2
        have D:=(Array.getElem?_eq_some_iff.1 B).1
        have M:j<listed.size:=by omega
        have s:=C.1
        rcases hw j D with ⟨e,p,m,hej⟩ | ⟨e,p,m,x,g,e2,he2,hbd2,hej⟩
        · have l:=b e p m
          rw [hej,Z5 _ _ _ (by omega)] at l
          simp [M] at l s
          rw [l] at s
          cases s
        · have l:=b e p m
          have S:=(Array.getElem?_eq_some_iff.1 g).1
          rw [Z5 _ _ _ (by omega)] at l
          have O:=K e.on x g l e2 he2 hbd2
          rw [hej] at O
          simp [M] at O s
          rw [O] at s
          cases s
     refine⟨fun C=>?_,fun i I=>?_⟩
     · exfalso
       obtain⟨j,H⟩:=List.exists_mem_of_ne_nil _ F
       have q:=mem_ready.1 H
       obtain⟨y,B,b⟩:=q.2
       have D:=(Array.getElem?_eq_some_iff.1 B).1
       have R:j∈Region.ready md (pre.push o) (listed.push false):=mem_ready.2 ⟨by rw [Z5 _ _ _ (by omega)];exact q.1,y,by rw [Array.getElem?_push];simp [Nat.ne_of_lt D];exact B,fun e p m=>by
        have s:=A j y B e p
        rw [Z5 _ _ _ (by omega)];exact b e p m⟩
       rw [C] at R
       cases R
     · have v:=N i I
       obtain⟨y,B,_⟩:=(mem_ready.1 v).2
       have E:=(Array.getElem?_eq_some_iff.1 B).1
       refine wpOp_mono (fun V T U=>?_) (Zio E (hg i) (h.2 i v))
       have e:(listed.push false).setIfInBounds i true=(listed.setIfInBounds i true).push false:=by
        apply Array.ext_getElem?
        intro k
        simp only [Array.getElem?_setIfInBounds,Array.getElem?_push,Array.size_setIfInBounds,Array.size_push]
        by_cases hik:i=k
        · subst hik;simp [f,E,Nat.ne_of_lt E];omega
        · simp [hik]
       rw [e]
       exact ih _ V T (by simp [f]) (K.step v) U
theorem Zay{P:Program}{Q:Exit->Act->World->Prop}{ops:Array Oper}{id fuel:Nat}{S:World->Prop}{a:Act}{w:World}(calm:List Nat)(o:Oper)(ho:ops[ops.size-1]? =some o)(hm:P.follows .mixedOrders=true)(hf:ops.pop.size=fuel+calm.length)
 (hb:((List.range ops.size).all fun j=>(ops[j]?).all fun x=>x.after.all fun e=>decide (e.on<j))=true) (hg:(ops.pop.all fun x=>x.guard.isNone)=true)
 (hw:((List.range ops.pop.size).all fun j=>o.after.any fun e=>Region.binds .any e && (e.on ==j || (ops.pop[e.on]?).any fun x=>x.after.any fun e2=>Region.binds .any e2 && e2.on ==j))=true) (hs:Region.noSelect ops.pop=true)
 (hc:Zc3 .any ops.pop (Array.replicate ops.pop.size false) calm=true) (hS:S w.drew)
 (h:S w.drew->ZdK P ops.pop S (fun a'=>wpAnyH P .any ops.pop (Exit.then (wpList P ops (NoPanic Q) [o]) (NoPanic Q)) S fuel (Zi9 (Array.replicate ops.pop.size false) calm) a' w.drew) calm a):(Code.region id ops true).wp P Q a w:=by
 have u:0<ops.size:=by
  rcases Nat.eq_zero_or_pos ops.size with h0 | h0
  · rw [Array.getElem?_eq_none (by omega)] at ho;cases ho
  · exact h0
 have f:ops=ops.pop.push o:=by
  apply Array.ext_getElem?
  intro k
  rw [Array.getElem?_push]
  by_cases hk:k=ops.pop.size
  · rw [if_pos hk,hk,Array.size_pop,ho]
  · rw [if_neg hk]
    rcases Nat.lt_or_ge k ops.pop.size with b | b
    · rw [Array.getElem?_pop]
      simp at b
      rw [if_pos b]
    · rw [Array.getElem?_eq_none b,Array.getElem?_eq_none]
      simp at b hk
      omega
 refine wp_region_noPanic ?_
 refine wp_region_any hm ?_
 have s:ops.size=ops.pop.size+1:=by simp;omega
 have e:Array.replicate ops.size false=(Array.replicate ops.pop.size false).push false:=by rw [s];simp [Array.replicate_succ]
 have z:wpAny P .any ops.pop (Exit.then (wpList P (ops.pop.push o) (NoPanic Q) [o]) (NoPanic Q)) ops.pop.size (Array.replicate ops.pop.size false) a w.drew:=by
  rw [<-f]
  refine wpAny_of_held (S:=S) _ _ _ _ ?_
  have m:=Zby (P:=P) (md:=.any) (Q:=Exit.then (wpList P ops (NoPanic Q) [o]) (NoPanic Q)) (ops:=ops.pop) (S:=S) (w:=w.drew) hs (fun c a d v w h=>h) hS calm fuel (Array.replicate ops.pop.size false) a hc (h hS) (fun a' y=>y)
  rw [<-hf] at m
  exact m
 rw [e,s]
 have g:=Zip (P:=P) (md:=.any) (pre:=ops.pop) (o:=o) (Q:=NoPanic Q) ?_ ?_ ?_ ops.pop.size (Array.replicate ops.pop.size false) a w.drew (by simp) (ZfU.start .any ops.pop) z
 · rw [<-f] at g
   exact g
 · rw [<-f]
   intro j x l e n
   have q:=(Array.getElem?_eq_some_iff.1 l).1
   have b:=List.all_eq_true.1 hb j (List.mem_range.2 q)
   rw [l] at b
   simp only [Option.all_some,Array.all_eq_true_iff_forall_mem] at b
   simpa using b e n
 · intro i x l
   have b:=Array.all_eq_true_iff_forall_mem.1 hg x (Array.mem_of_getElem? l)
   simpa using b
 · intro j t
   have b:=List.all_eq_true.1 hw j (List.mem_range.2 t)
   rw [Array.any_eq_true'] at b
   obtain⟨e,n,m⟩:=b
   simp only [Bool.and_eq_true,Bool.or_eq_true,beq_iff_eq] at m
   rcases m.2 with h3 | h3
   · exact Or.inl ⟨e,n,m.1,h3⟩
   · cases l:ops.pop[e.on]? with
     | none=>rw [l] at h3;cases h3
     | some x=>
       rw [l,Option.any_some,Array.any_eq_true'] at h3
       obtain⟨e2,p,r⟩:=h3
       simp only [Bool.and_eq_true,beq_iff_eq] at r
       exact Or.inr ⟨e,n,m.1,x,l,e2,p,r.1,r.2⟩
end Go.Proofs.YtilkaeclgmcolaaGreat
