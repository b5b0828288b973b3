import Derived.Test.YtilkaeclgmcolaaGreatHCellsZz
import Derived.Test.YtilkaeclgmcolaaGreatArgsZz
import Derived.Test.YtilkaeclgmcolaaGreatBCopyZz
import Derived.Test.YtilkaeclgmcolaaGreatAppendZz
import Derived.Shelf.Spec.SlicesInsert
import Derived.Laws.CopyOwn
import Derived.Lib.AppendZerosOnto
import Derived.Deep.RegionHeld3
import Derived.Test.YtilkaeclgmcolaaGreatMathZz
import Derived.BigQuiet
import Derived.Test.YtilkaeclgmcolaaGreatDkOkZz
import Derived.Test.YtilkaeclgmcolaaGreatSCellsZz
set_option maxRecDepth 100000
set_option maxHeartbeats 4000000
namespace Go.Proofs.YtilkaeclgmcolaaGreat
open Go Go.RowKit
theorem Zaj{P:Program}(w:World)(dT sT ty elem:TypeId)(g o dLen dCap:Nat)(a:Addr)(sLen sCap size:Nat)(cur:List Value)(t:TypeId)(cs:List Value)
 (hu:P.underlying dT=some (.slice elem)) (hs:(P.info? elem).map (·.size)=some size)
 (hg:w.heap[g]? =some (.cells cur.toArray t (0,0))) (hn:cs.length=Nat.min sLen dLen*size) (hfit:o+cs.length<=cur.length)
 (hsrc:∀j v,cs[j]? =some v->w.cell? (a.add j)=some v) (h1:∀v∈cs,v.oneCell'=true):
 (Builtin.copy_ #[dT,sT] ty #[.slice (some ⟨g,o,none⟩) dLen dCap,.slice (some a) sLen sCap]).run P w=.ok (goInt (Nat.min sLen dLen)) (w.setRow g (splice cur o cs).toArray):=by
 have c:=run_loadCells_list (P:=P) w a cs hsrc
 have b:=run_storeCells_at P g o t cs 0 cur.toArray w hg (by simpa using hfit) h1
 have e:(cur.toArray.toList.take (o+0)++cs++cur.toArray.toList.drop (o+0+cs.length)).toArray=(splice cur o cs).toArray:=by
  simp [splice]
 rw [e] at b
 cases hq:P.info? elem with
 | none=>simp [hq] at hs
 | some i=>
   have d:i.size=size:=by simpa [hq] using hs
   rw [hn] at c
   simp [Builtin.copy_,run_underlying hu,Builtin.lenOf,Builtin.firstCells,sizeOf,typeInfo,hq,d,c,b]
theorem Zjb{A B S X:List Value}(hX:X.length=1)(hS:1<=S.length):
 splice (splice (A++(B++S)) (A.length+1) B) A.length X=A++(X++(B++S.drop 1)):=by
 have a:splice (A++(B++S)) (A.length+1) B=A++((B++S).take 1++(B++S.drop 1)):=by
  unfold splice
  rw [List.take_append,List.drop_append]
  rw [List.take_of_length_le (by omega:A.length<=A.length+1),List.drop_of_length_le (by omega:A.length<=A.length+1+B.length)]
  rw [show A.length+1-A.length=1 by omega,show A.length+1+B.length-A.length=B.length+1 by omega]
  rw [List.drop_append,List.drop_of_length_le (by omega:B.length<=B.length+1),show B.length+1-B.length=1 by omega]
  simp
 have b:((B++S).take 1).length=1:=by simp;omega
 rw [a]
 unfold splice
 rw [List.take_left',List.drop_append,hX]
 · rw [List.drop_of_length_le (by omega:A.length<=A.length+1),show A.length+1-A.length=1 by omega]
   rw [List.drop_left' b]
   simp
 · rfl
theorem ZhY{A B Z X:List Value}(hX:X.length=1):
 splice (splice (A++Z) A.length X) (A.length+1) B=A++(X++(B++Z.drop (1+B.length))):=by
 have b:splice (A++Z) A.length X=A++(X++Z.drop 1):=by
  unfold splice
  rw [List.take_left',List.drop_append,hX]
  · rw [List.drop_of_length_le (by omega:A.length<=A.length+1),show A.length+1-A.length=1 by omega]
    simp
  · rfl
 rw [b]
 have c:A++(X++Z.drop 1)=(A++X)++Z.drop 1:=by simp
 have a:(A++X).length=A.length+1:=by simp [hX]
 rw [c]
 unfold splice
 rw [List.take_left' a,List.drop_append,a]
 rw [List.drop_of_length_le (by omega:(A++X).length<=A.length+1+B.length),show A.length+1+B.length-(A.length+1)=B.length by omega,List.drop_drop]
 simp [Nat.add_comm]
def ZkL(w:World)(g:Nat)(cs:List Value):Prop:=∀j v,cs[j]? =some v->w.cell? ⟨g,j,none⟩=some v
def One(w:World)(p:Nat)(v:Value)(t:TypeId):Prop:=w.heap[p]? =some (.cells #[v] t (0,0))
theorem One.lt{w:World}{p:Nat}{v:Value}{t:TypeId}(h:One w p v t):p<w.heap.size:=by
 unfold One at h
 rcases Nat.lt_or_ge p w.heap.size with h1 | h1
 · exact h1
 · rw [Array.getElem?_eq_none h1] at h;cases h
theorem One.c0{w:World}{p:Nat}{v:Value}{t:TypeId}(h:One w p v t):w.cell? ⟨p,0,none⟩=some v:=by unfold One at h;simp [World.cell?,h]
theorem One.frozen{w:World}{p:Nat}{v:Value}{t:TypeId}(h:One w p v t)(j:Nat):w.frozen? ⟨p,j,none⟩=false:=by unfold One at h;simp [World.frozen?,h]
theorem One.below{w w':World}{p:Nat}{v:Value}{t:TypeId}(h:One w p v t)(hb:Below w.heap.size w w'):One w' p v t:=(hb.block p h.lt).trans h
theorem One.new(w:World)(v:Value)(t:TypeId):One (w.alloc (.cells #[v] t)) w.heap.size v t:=heap_alloc_new w _
theorem ZhZ:(Tryz.prog.info? 2).map (fun i=>(i.zero,i.size,i.bytes))=some (some (Value.int .i64 0),1,8):=by kernel_rfl
def Zbd(base:Nat)(w:World)(g c:Nat)(vs:List Value):Prop:=w.ownsRow base 2 1 (.slice (some ⟨g,0,none⟩) vs.length c) vs.length vs
theorem Zbd.lt{base:Nat}{w:World}{g c:Nat}{vs:List Value}(h:Zbd base w g c vs):base<=g/\g<w.heap.size:=World.ownsRow.lt h g rfl
theorem ZeM{base:Nat}{w:World}{g c:Nat}{vs:List Value}(h:Zbd base w g c vs):∃S:List Value,w.heap[g]? =some (.cells (vs++S).toArray 2 (0,0))/\S.length=c-vs.length/\base<=g/\vs.length<=c/\c<=maxLen:=by
 obtain⟨b,a⟩:=h
 rcases a with ⟨e,_⟩ | ⟨g',cp,cur,e,hb,hg,hnc,hcm,hsz,htk⟩
 · cases e
 · injection e with e1 e2 e3
   injection e1 with e1
   injection e1 with e1
   subst e1 e3
   rw [Nat.mul_one] at htk hsz
   refine⟨cur.toList.drop vs.length,?_,?_,hb,hnc,hcm⟩
   · have:(vs++cur.toList.drop vs.length).toArray=cur:=by
      have e:=List.take_append_drop vs.length cur.toList
      rw [htk] at e
      rw [e]
     rw [this];exact hg
   · rw [List.length_drop,Array.length_toList,hsz]
theorem Zh0{base:Nat}{w:World}{g c:Nat}{vs:List Value}{S:List Value}(hg:w.heap[g]? =some (.cells (vs++S).toArray 2 (0,0)))(hS:S.length=c-vs.length)(hb:base<=g)(hnc:vs.length<=c)(hcm:c<=maxLen):Zbd base w g c vs:=by
 refine⟨by simp,Or.inr ⟨g,c,_,rfl,hb,hg,hnc,hcm,?_,?_⟩⟩
 · simp [hS];omega
 · have e:(vs++S).toArray.toList=vs++S:=rfl
   rw [e,Nat.mul_one,List.take_left' rfl]
theorem Zjc(base g c i vb:Nat)(hs:List Value)(h:Value)(w:World)(ho:∀v∈hs,v.oneCell'=true)(hho:h.oneCell'=true)(hr:Zbd base w g c hs)(hv:One w vb h 2)(hne:vb≠g)(hi:i<hs.length)(hroom:hs.length+1<=c)(hn:hs.length<=1048576):
 Calls Tryz.prog 217 #[.slice (some ⟨g,0,none⟩) hs.length c,.int .i64 i,.slice (some ⟨vb,0,none⟩) 1 1] w fun e w'=>e=.returned (.slice (some ⟨g,0,none⟩) (hs.length+1) c)/\Zbd base w' g c (hs.take i++h::hs.drop i)/\w.grownBy w' (some g):=by
 obtain⟨S,l,H,T,W,M⟩:=ZeM hr
 have N:∀o P R,(callFunc 235 #[.slice (some ⟨vb,0,none⟩) 1 1,.slice (some ⟨g,o,none⟩) P R]).run Tryz.prog w=.ok (.value (.bool false)) w:=fun o P R=>by
  rw [run_callFunc_extern Tryz.func235 (by kernel_rfl) (by kernel_rfl) (by kernel_rfl) (e:=Extern.SlicesOverlaps.overlaps #[31,31] #[4]) (by kernel_rfl),
   Lib.run_overlaps_apart w 31 4 2 Tryz.underlying31 1 (fun _=>by kernel_rfl) ⟨vb,0,none⟩ ⟨g,o,none⟩ 1 1 P R hne 2 2 1 (hs++S).length (by unfold One at hv;simp [World.shape?,hv]) (by simp [World.shape?,l]) (by rw [List.length_append];omega) (hv.frozen 0) (hv.frozen 1)]
  rfl
 have r:(Tryz.prog.info? 2).map (·.size)=some 1:=by kernel_rfl
 have s:hs++S=hs.take i++(hs.drop i++S):=by rw [<-List.append_assoc,List.take_append_drop]
 have J:(hs.take i).length=i:=by simp;omega
 have n:(hs.drop i).length=hs.length-i:=by simp
 obtain⟨f,m⟩:∃f,f=splice (hs++S) (i+1) (hs.drop i):=⟨_,rfl⟩
 have p:f.length=(hs++S).length:=by rw [m];exact length_splice _ _ _ (by rw [n,List.length_append,H];omega)
 obtain⟨x,y⟩:∃x,x=splice f i [h]:=⟨_,rfl⟩
 have G:x=(hs.take i++h::hs.drop i)++S.drop 1:=by
  have E:=Zjb (A:=hs.take i) (B:=hs.drop i) (S:=S) (X:=[h]) rfl (by omega)
  rw [J] at E
  rw [y,m,s,E]
  simp
 have K:ZkL w g hs:=fun j v b=>by
  have Q:j<hs.length:=by
   rcases Nat.lt_or_ge j hs.length with E | E
   · exact E
   · rw [List.getElem?_eq_none E] at b;cases b
  simp only [World.cell?,l]
  simp [List.getElem?_append_left Q,b]
 have q:∀C u O,(Builtin.copy_ #[31,31] C #[.slice (some ⟨g,i+1,none⟩) (hs.length-i) u,.slice (some ⟨g,i,none⟩) (hs.length+1-i) O]).run Tryz.prog w.drew=.ok (goInt (Nat.min (hs.length+1-i) (hs.length-i))) (w.drew.setRow g f.toArray):=fun C u O=>by
  rw [m]
  exact Zaj w.drew _ _ C 2 g (i+1) (hs.length-i) u ⟨g,i,none⟩ (hs.length+1-i) O 1 (hs++S) 2 (hs.drop i) Tryz.underlying31 r l (by rw [n,Nat.mul_one];simp only [Nat.min_def];split <;> omega) (by rw [n,List.length_append,H];omega)
   (fun j v b=>by
     rw [List.getElem?_drop] at b
     rw [Addr.add_lit]
     exact K (i+j) v b) (fun v hv=>ho v (List.mem_of_mem_drop hv))
 obtain⟨d,a⟩:∃d,d=w.drew.setRow g f.toArray:=⟨_,rfl⟩
 have z:d.heap[g]? =some (.cells f.toArray 2 (0,0)):=by rw [a];exact setRow_heap w.drew g _ _ 2 _ l
 have F:One d vb h 2:=by rw [a];exact (setRow_other w.drew g vb f.toArray hne).trans hv
 have D:Nat.min 1 (hs.length+1-i)=1:=by simp only [Nat.min_def];split <;> omega
 have V:∀C u,(Builtin.copy_ #[31,31] C #[.slice (some ⟨g,i,none⟩) (hs.length+1-i) u,.slice (some ⟨vb,0,none⟩) 1 1]).run Tryz.prog d=.ok (goInt (Nat.min 1 (hs.length+1-i))) (d.setRow g x.toArray):=fun C u=>by
  rw [y]
  exact Zaj d _ _ C 2 g i (hs.length+1-i) u ⟨vb,0,none⟩ 1 1 1 f 2 [h] Tryz.underlying31 r z (by rw [D];rfl) (by rw [p,List.length_append];simp;omega)
   (fun j v b=>by
     rw [Addr.add_lit]
     match j,b with
     | 0,b=>simp at b;rw [<-b];exact F.c0
     | j+1,b=>simp at b) (by intro v hv;simp at hv;rw [hv];exact hho)
 rw [<-a] at q
 have t:Hid (Zbd base (d.setRow g x.toArray) g c (hs.take i++h::hs.drop i)/\w.grownBy (d.setRow g x.toArray) (some g)):=by
  refine⟨Zh0 (S:=S.drop 1) ?_ ?_ T ?_ M,?_⟩
  · rw [<-G];exact setRow_heap d g _ _ 2 _ z
  · simp;omega
  · simp;omega
  · refine⟨by rw [a];rfl,by rw [a];rfl,by rw [a];rfl,by rw [a];simp [World.setRow],fun k _ Z=>?_⟩
    have I:k≠g:=fun e=>Z (by rw [e])
    rw [setRow_other d g k x.toArray I,a]
    exact setRow_other w.drew g k f.toArray I
 clear K F z G p m y s J n a ho hho
 have a2:¬((i:Int)=(hs.length:Int)):=by omega
 have a1:IntKind.i64.wrap ((i:Int)+1)=(i:Int)+1:=by rw [IntKind.wrap_i64];omega
 have a8:IntKind.i64.wrap ((hs.length:Int)+1)=(hs.length:Int)+1:=by rw [IntKind.wrap_i64];omega
 have a9:¬((hs.length:Int)+1 > (c:Int)):=by omega
 have a0:i<=hs.length:=by omega
 have U:(i:Int)<=(hs.length:Int):=by omega
 have a6:(0:Int)<=(i:Int)+1:=by omega
 have Y:((i:Int)+1).toNat=i+1:=by omega
 have a5:¬(c=i+1):=by omega
 have a3:(i:Int)<=(hs.length:Int)+1:=by omega
 have a4:¬(c=i):=by omega
 have L:Tryz.prog.follows Departure.mixedOrders=true:=by kernel_rfl
 have a7:(i:Int)+1<=(hs.length:Int)+1:=by omega
 go_enter Tryz.func217,Tryz.ntmps217
 go_wp2_with (simp only [N])
 go_region_law_o (refine step_copy_runI rfl _ _ 31 31 rfl _ _ (by simp [Act.eval,Act.put]) (by simp [Act.eval,Act.put]) (q _ _ _) ?_)
 go_wp2_with fail
 go_ret
 exact⟨rfl,t.out.1,t.out.2⟩
theorem ZkM(base g c i vb:Nat)(hs:List Value)(h:Value)(w:World)(ho:∀v∈hs,v.oneCell'=true)(hho:h.oneCell'=true)(hr:Zbd base w g c hs)(hv:One w vb h 2)(hi:i<hs.length)(hroom:c<hs.length+1)(hn:hs.length<=1048576)(hbw:base<=w.heap.size):
 Calls Tryz.prog 217 #[.slice (some ⟨g,0,none⟩) hs.length c,.int .i64 i,.slice (some ⟨vb,0,none⟩) 1 1] w fun e w'=>∃G,e=.returned (.slice (some ⟨w.heap.size,0,none⟩) (hs.length+1) G)/\Zbd base w' w.heap.size G (hs.take i++h::hs.drop i)/\Below w.heap.size w w':=by
 obtain⟨S,Q,a6,aw,af,al⟩:=ZeM hr
 obtain⟨j0,a7,a5,a9,R⟩:=info_parts ZhZ
 have E:(Tryz.prog.info? 2).map (·.size)=some 1:=by kernel_rfl
 have a1:g<w.heap.size:=hr.lt.2
 have a4:vb<w.heap.size:=hv.lt
 have y:ZkL w g hs:=fun j v a=>by
  have M:j<hs.length:=by
   rcases Nat.lt_or_ge j hs.length with f | f
   · exact f
   · rw [List.getElem?_eq_none f] at a;cases a
  simp only [World.cell?,Q]
  simp [List.getElem?_append_left M,a]
 have d:(hs.take i).length=i:=by simp;omega
 have u:(hs.drop i).length=hs.length-i:=by simp
 have Y:(loadCells ⟨g,0,none⟩ i).run Tryz.prog w.drew=.ok (hs.take i).toArray w.drew:=by
  have f:=run_loadCells_list (P:=Tryz.prog) w.drew ⟨g,0,none⟩ (hs.take i) (fun j v a=>by
   rw [Addr.add_lit,Nat.zero_add]
   refine y j v ?_
   have M:j<(hs.take i).length:=by
    rcases Nat.lt_or_ge j (hs.take i).length with f | f
    · exact f
    · rw [List.getElem?_eq_none f] at a;cases a
   have e:hs=hs.take i++hs.drop i:=by rw [List.take_append_drop]
   rw [e,List.getElem?_append_left M];exact a)
  rwa [d] at f
 have z:(Builtin.firstCells j0.size i (.slice (some ⟨g,0,none⟩) i c)).run Tryz.prog w.drew=.ok (hs.take i).toArray w.drew:=by
  rw [a9]
  simp [Builtin.firstCells,Y]
 have l:=fun x=>Lib.run_append_grow_zeros (P:=Tryz.prog) w 31 3 x 2 j0 _ .i64 .i64 Tryz.underlying31 Tryz.underlying3 a7 a5 (some ⟨g,0,none⟩) i c (hs.take i) z (hs.length+1-i) (by omega) (by omega) (by omega) (by omega) (by rw [R];omega) (growslice_fits (by omega) (by rw [R];omega))
 rw [show i+(hs.length+1-i)=hs.length+1 by omega,show ((hs.length+1-i:Nat):Int)=(hs.length:Int)+1-(i:Int) by omega] at l
 have aa:=grownCap_ge w (hs.length+1) c 2
 have a2:=grownCap_le_maxLen w (hs.length+1) c 2 (by unfold maxLen;omega)
 obtain⟨G,hG⟩:∃G,G=grownCap w (hs.length+1) c 2:=⟨_,rfl⟩
 rw [<-hG] at l aa a2
 obtain⟨Z,hZ⟩:∃Z,Z=(Builtin.zeroCells (Value.int .i64 0).cells (hs.length+1-i)).toList++(Builtin.zeroCells (Value.int .i64 0).cells (G-(hs.length+1))).toList:=⟨_,rfl⟩
 have k:Z.length=G-i:=by
  have e:∀m,(Builtin.zeroCells (Value.int .i64 0).cells m).toList.length=m:=fun m=>by simp [Builtin.zeroCells,Value.cells]
  rw [hZ,List.length_append,e,e]
  omega
 have b:(hs.take i).toArray++Builtin.zeroCells (Value.int .i64 0).cells (hs.length+1-i)++Builtin.zeroCells (Value.int .i64 0).cells (G-(hs.length+1))=(hs.take i++Z).toArray:=by
  apply Array.ext'
  rw [hZ]
  simp
 rw [b] at l
 obtain⟨n,t⟩:∃n,n=w.drew.alloc (.cells (hs.take i++Z).toArray 2):=⟨_,rfl⟩
 rw [<-t] at l
 have q:Below w.heap.size w n:=by rw [t];exact ((Below.refl w.heap.size w).drew).alloc (Nat.le_refl _) _
 have L:n.heap[w.heap.size]? =some (.cells (hs.take i++Z).toArray 2 (0,0)):=by rw [t];exact heap_alloc_new w.drew _
 have U:One n vb h 2:=(q.block vb a4).trans hv
 have T:ZkL n g hs:=fun j v a=>(q.cell (p:=⟨g,j,none⟩) a1).trans (y j v a)
 obtain⟨C,s⟩:∃C,C=splice (hs.take i++Z) i [h]:=⟨_,rfl⟩
 have D:C.length=(hs.take i++Z).length:=by rw [s];exact length_splice _ _ _ (by rw [List.length_append,d,k];simp;omega)
 obtain⟨O,K⟩:∃O,O=splice C (i+1) (hs.drop i):=⟨_,rfl⟩
 have V:O=(hs.take i++h::hs.drop i)++Z.drop (1+(hs.drop i).length):=by
  have f:=ZhY (A:=hs.take i) (B:=hs.drop i) (Z:=Z) (X:=[h]) rfl
  rw [d] at f
  rw [K,s,f]
  simp
 have N:Nat.min 1 (hs.length+1-i)=1:=by simp only [Nat.min_def];split <;> omega
 have W:∀x I,(Builtin.copy_ #[31,31] x #[.slice (some ⟨w.heap.size,i,none⟩) (hs.length+1-i) I,.slice (some ⟨vb,0,none⟩) 1 1]).run Tryz.prog n=.ok (goInt (Nat.min 1 (hs.length+1-i))) (n.setRow w.heap.size C.toArray):=fun x I=>by
  rw [s]
  exact Zaj n _ _ x 2 w.heap.size i (hs.length+1-i) I ⟨vb,0,none⟩ 1 1 1 (hs.take i++Z) 2 [h] Tryz.underlying31 E L (by rw [N];rfl) (by rw [List.length_append,d,k];simp;omega)
   (fun j v a=>by
     rw [Addr.add_lit]
     match j,a with
     | 0,a=>simp at a;rw [<-a];exact U.c0
     | j+1,a=>simp at a) (by intro v hv;simp at hv;rw [hv];exact hho)
 obtain⟨o,r⟩:∃o,o=n.setRow w.heap.size C.toArray:=⟨_,rfl⟩
 have H:o.heap[w.heap.size]? =some (.cells C.toArray 2 (0,0)):=by rw [r];exact setRow_heap n w.heap.size _ _ 2 _ L
 have J:Below w.heap.size w o:=by rw [r];exact below_setRow q (Nat.le_refl _) _
 have a0:∀x I sc,(Builtin.copy_ #[31,31] x #[.slice (some ⟨w.heap.size,i+1,none⟩) (hs.length-i) I,.slice (some ⟨g,i,none⟩) (hs.length-i) sc]).run Tryz.prog o.drew=.ok (goInt (Nat.min (hs.length-i) (hs.length-i))) (o.drew.setRow w.heap.size O.toArray):=fun x I sc=>by
  rw [K]
  exact Zaj o.drew _ _ x 2 w.heap.size (i+1) (hs.length-i) I ⟨g,i,none⟩ (hs.length-i) sc 1 C 2 (hs.drop i) Tryz.underlying31 E H (by rw [u,Nat.mul_one];simp only [Nat.min_def];split <;> omega) (by rw [D,List.length_append,d,k,u];omega)
   (fun j v a=>by
     rw [List.getElem?_drop] at a
     rw [Addr.add_lit]
     exact (J.cell (p:=⟨g,i+j,none⟩) a1).trans (y (i+j) v a)) (fun v hv=>ho v (List.mem_of_mem_drop hv))
 rw [<-r] at W
 have F:Hid (Zbd base (o.drew.setRow w.heap.size O.toArray) w.heap.size G (hs.take i++h::hs.drop i)/\Below w.heap.size w (o.drew.setRow w.heap.size O.toArray)):=by
  refine⟨Zh0 (S:=Z.drop (1+(hs.drop i).length)) ?_ ?_ hbw ?_ a2,below_setRow J.drew (Nat.le_refl _) _⟩
  · rw [<-V];exact setRow_heap o.drew w.heap.size _ _ 2 _ H
  · rw [List.length_drop,u,k];simp;omega
  · simp;omega
 have ax:(hs.length:Int)+1 > (c:Int):=by omega
 have ak:¬((i:Int)=(hs.length:Int)):=by omega
 have aj:IntKind.i64.wrap ((i:Int)+1)=(i:Int)+1:=by rw [IntKind.wrap_i64];omega
 have au:IntKind.i64.wrap ((hs.length:Int)+1)=(hs.length:Int)+1:=by rw [IntKind.wrap_i64];omega
 have am:IntKind.i64.wrap ((hs.length:Int)+1-(i:Int))=(hs.length:Int)+1-(i:Int):=by rw [IntKind.wrap_i64];omega
 have ai:i<=hs.length:=by omega
 have ae:(i:Int)<=(hs.length:Int):=by omega
 have ar:(i:Int)<=(c:Int):=by omega
 have aq:(0:Int)<=(i:Int)+1:=by omega
 have ag:((i:Int)+1).toNat=i+1:=by omega
 have ap:¬(G=i+1):=by omega
 have an:(i:Int)<=(hs.length:Int)+1:=by omega
 have ao:¬(G=i):=by omega
 have ah:¬(c=i):=by omega
 have av:(i:Int)+1<=(hs.length:Int)+1:=by omega
 have a3:Tryz.prog.follows Departure.mixedOrders=true:=by kernel_rfl
 clear y T U L H V D s K d u t r J q z Y hG hZ k b hr Q a6 ho hho
 go_enter Tryz.func217,Tryz.ntmps217
 go_wp2_with (at_builtin;refine Lib.wpList_append_run _ rfl _ _ _ _ rfl _ _ rfl rfl _ _ (l _) ?_)
 go_region_law_o (refine step_copy_runI rfl _ _ 31 31 rfl _ _ (by simp [Act.eval,Act.put]) (by simp [Act.eval,Act.put]) (a0 _ _ _) ?_)
 go_wp2_with fail
 go_ret
 exact⟨G,rfl,F.out.1,F.out.2⟩
theorem Zbd.of{base:Nat}{w:World}{g c n:Nat}{vs xs:List Value}(h:w.ownsRow base 2 1 (.slice (some ⟨g,0,none⟩) n c) n xs)(hn:n=vs.length)(hx:xs=vs):Zbd base w g c vs:=by
 subst hn hx;exact h
theorem Zmq(base c vb:Nat)(a:Option Addr)(hs:List Value)(h:Value)(w:World)(hho:h.oneCell'=true)(hr:w.ownsRow base 2 1 (.slice a hs.length c) hs.length hs)(hv:One w vb h 2)(hn:hs.length<=1048576)(hbw:base<=w.heap.size):
 Calls Tryz.prog 217 #[.slice a hs.length c,.int .i64 hs.length,.slice (some ⟨vb,0,none⟩) 1 1] w fun e w'=>∃g G,e=.returned (.slice (some ⟨g,0,none⟩) (hs.length+1) G)/\Zbd base w' g G (hs++[h])/\w.grownBy w' (Value.slice a hs.length c).ownBlock/\((Value.slice a hs.length c).ownBlock=some g\/g=w.heap.size):=by
 obtain⟨q,l,k,m,j⟩:=info_parts ZhZ
 have p:=Za hr
 have u:=Za hv
 have z:(hs.length:Int)<=(hs.length:Int):=Int.le_refl _
 obtain⟨r,y⟩:=hr
 clear r
 rcases y with ⟨e,e2⟩ | ⟨g',cp,cur,e,hb,hg,hnc,hcm,hsz,htk⟩
 · injection e with e1 e3 e4
   subst e1 e4
   have s:hs=[]:=List.length_eq_zero_iff.1 e3
   subst s
   simp only [List.length_nil] at *
   go_enter Tryz.func217,Tryz.ntmps217
   go_wp2_with (at_builtin;refine wpList_append_lies _ rfl (.tmp 23) (.tmp 24) 31 rfl base 2 q _ 1 8 Tryz.underlying31 l k m j rfl (by omega) (.slice none 0 0) 0 [] rfl p.out ⟨vb,0,none⟩ 1 1 [h] rfl rfl (World.news_of_block (cs:=#[h]) (t:=2) (fr:=(0,0)) u.out) (by intro v hv;simp at hv;rw [hv];exact hho) (by omega) (by unfold maxLen;omega) (by omega) hbw w.heap.size rfl ?_;intro o n x f b d i)
   go_ret
   exact⟨o,n,rfl,Zbd.of f rfl rfl,b,d⟩
 · injection e with e1 e3 e4
   subst e1 e4
   clear htk hsz hg e3
   by_cases hcn:c=hs.length
   · rw [hcn] at p ⊢
     go_enter Tryz.func217,Tryz.ntmps217
     go_wp2_with (at_builtin;refine wpList_append_lies _ rfl (.tmp 23) (.tmp 24) 31 rfl base 2 q _ 1 8 Tryz.underlying31 l k m j rfl (by omega) (.slice (some ⟨g',0,none⟩) hs.length hs.length) hs.length hs rfl p.out ⟨vb,0,none⟩ 1 1 [h] rfl rfl (World.news_of_block (cs:=#[h]) (t:=2) (fr:=(0,0)) u.out) (by intro v hv;simp at hv;rw [hv];exact hho) (by omega) (by unfold maxLen;omega) (by omega) hbw w.heap.size rfl ?_;intro o n x f b d i)
     go_ret
     exact⟨o,n,rfl,Zbd.of f (by simp) rfl,b,d⟩
   · have A:¬(c=hs.length):=hcn
     go_enter Tryz.func217,Tryz.ntmps217
     go_wp2_with (at_builtin;refine wpList_append_lies _ rfl (.tmp 23) (.tmp 24) 31 rfl base 2 q _ 1 8 Tryz.underlying31 l k m j rfl (by omega) (.slice (some ⟨g',0,none⟩) hs.length c) hs.length hs rfl p.out ⟨vb,0,none⟩ 1 1 [h] rfl rfl (World.news_of_block (cs:=#[h]) (t:=2) (fr:=(0,0)) u.out) (by intro v hv;simp at hv;rw [hv];exact hho) (by omega) (by unfold maxLen;omega) (by omega) hbw w.heap.size rfl ?_;intro o n x f b d i)
     go_ret
     exact⟨o,n,rfl,Zbd.of f (by simp) rfl,b,d⟩
theorem Zmr(base c i vb:Nat)(a:Option Addr)(hs:List Value)(h:Value)(w:World)(ho:∀v∈hs,v.oneCell'=true)(hho:h.oneCell'=true)(hr:w.ownsRow base 2 1 (.slice a hs.length c) hs.length hs)(hv:One w vb h 2)(hne:(Value.slice a hs.length c).ownBlock≠some vb)(hi:i<=hs.length)(hn:hs.length<=1048576)(hbw:base<=w.heap.size):
 Calls Tryz.prog 217 #[.slice a hs.length c,.int .i64 i,.slice (some ⟨vb,0,none⟩) 1 1] w fun e w'=>∃g G,e=.returned (.slice (some ⟨g,0,none⟩) (hs.length+1) G)/\Zbd base w' g G (hs.take i++h::hs.drop i)/\w.grownBy w' (Value.slice a hs.length c).ownBlock/\((Value.slice a hs.length c).ownBlock=some g\/g=w.heap.size):=by
 rcases Nat.lt_or_ge i hs.length with hlt | hge
 · obtain⟨g,rfl⟩:∃g,a=some ⟨g,0,none⟩:=by
    obtain⟨_,b⟩:=hr
    rcases b with ⟨e,e2⟩ | ⟨g',cp,cur,e,_⟩
    · omega
    · injection e with e1;exact⟨g',e1⟩
   have hrow:Zbd base w g c hs:=hr
   have f:vb≠g:=fun e=>hne (by simp [Value.ownBlock,e])
   rcases Nat.lt_or_ge c (hs.length+1) with hc | hc
   · refine (ZkM base g c i vb hs h w ho hho hrow hv hlt hc hn hbw).mono ?_
     rintro e w' ⟨G,rfl,d,b⟩
     exact⟨w.heap.size,G,rfl,d,⟨b.os,b.tape,b.output,b.size,fun k m _=>b.block k m⟩,Or.inr rfl⟩
   · refine (Zjc base g c i vb hs h w ho hho hrow hv f hlt hc hn).mono ?_
     rintro e w' ⟨rfl,d,b⟩
     exact⟨g,c,rfl,d,b,Or.inl rfl⟩
 · have j:i=hs.length:=by omega
   subst j
   refine (Zmq base c vb a hs h w hho hr hv hn hbw).mono ?_
   rintro e w' ⟨g,G,rfl,d,b,l⟩
   refine⟨g,G,rfl,?_,b,l⟩
   rw [List.take_length,List.drop_length]
   exact d
def Zc6(x:Int):List Int->Nat
 | []=>0
 | y::l=>if y<x then Zc6 x l+1 else 0
theorem Zka(x:Int)(l:List Int):Zc6 x l<=l.length:=by
 induction l with
 | nil=>simp [Zc6]
 | cons y l ih=>simp only [Zc6];split <;> simp <;> omega
theorem Zms(x:Int)(l:List Int)(i:Nat)(hi:i<Zc6 x l):nth l i<x:=by
 induction l generalizing i with
 | nil=>simp [Zc6] at hi
 | cons y l ih=>
   simp only [Zc6] at hi
   by_cases hm:y<x
   · rw [if_pos hm] at hi
     match i with
     | 0=>simpa [nth] using hm
     | i+1=>simpa [nth] using ih i (by omega)
   · simp [hm] at hi
theorem ZkN{l:List Int}(h:l.Pairwise (fun a b=>a<b))(x:Int)(i:Nat)(hi:Zc6 x l<=i)(hl:i<l.length):x<=nth l i:=by
 induction l generalizing i with
 | nil=>simp at hl
 | cons y l ih=>
   obtain⟨d,f⟩:=List.pairwise_cons.1 h
   simp only [Zc6] at hi
   by_cases hm:y<x
   · rw [if_pos hm] at hi
     match i with
     | 0=>omega
     | i+1=>simpa [nth] using ih f i (by omega) (by simpa using hl)
   · match i with
     | 0=>simpa [nth] using hm
     | i+1=>
       have c:i<l.length:=by simpa using hl
       have:=d l[i] (List.getElem_mem c)
       have e:nth (y::l) (i+1)=l[i]:=by simp [nth,List.getD,c]
       rw [e];omega
theorem Zmt{l:List Int}(x:Int)(hx:x ∉ l):ZaA l x=l.take (Zc6 x l)++x::l.drop (Zc6 x l):=by
 induction l with
 | nil=>rfl
 | cons y l ih=>
   have b:y≠x:=fun e=>hx (by simp [e])
   have a:=ih (fun h=>hx (List.mem_cons_of_mem _ h))
   simp only [ZaA,Zc6]
   by_cases hm:y<x
   · simp [hm,a]
   · simp [hm,b]
theorem ZoI(x:Int)(w:World):Calls Tryz.prog 234 #[.int .i64 x] w fun e w'=>e=.returned (.bool false)/\w'=w:=by
 have a:(x !=x)=false:=by simp
 go_enter Tryz.func234,Tryz.ntmps234
 go_wp2
 go_ret
 exact⟨rfl,rfl⟩
theorem pNaNc(x:Int)(w:World):Calls Tryz.prog 169 #[.int .i64 x] w fun e w'=>e=.returned (.bool false)/\w'=w:=by
 have a:(x !=x)=false:=by simp
 go_enter Tryz.func169,Tryz.ntmps169
 go_wp2
 go_ret
 exact⟨rfl,rfl⟩
theorem pLess(x y:Int)(w:World):Calls Tryz.prog 233 #[.int .i64 x,.int .i64 y] w fun e w'=>e=.returned (.bool (decide (x<y)))/\w'=w:=by
 go_enter Tryz.func233,Tryz.ntmps233
 go_wp2_with (go_at_call 169;refine (pNaNc _ _).mono ?_;rintro e w' ⟨rfl,rfl⟩)
 go_ret
 exact⟨rfl,rfl⟩
theorem iBsI(ao:Option Addr)(cap:Nat)(l:List Int)(x:Int)(w:World)(hv:Zy w ao l)(hs:l.Pairwise (fun a b=>a<b))(hn:l.length<=1048576):
 Calls Tryz.prog 216 #[.slice ao l.length cap,.int .i64 x] w fun e w'=>(∃b:Bool,e=.returned (.tuple #[.int .i64 (Zc6 x l:Nat),.bool b]))/\Below w.heap.size w w':=by
 have B:=Za (Zms x l)
 have s:=Za (ZkN hs x)
 have D:=Zka x l
 have H:=Za hv
 clear hv hs
 generalize Zc6 x l=p at *
 go_enter Tryz.func216,Tryz.ntmps216
 go_wp2_with fail
 go_loop [7,8] (fun i j=>∃u v:Nat,u<=p/\p<=v/\v<=l.length/\i=.int .i64 u/\j=.int .i64 v) (fun i j=>(intOf j).toNat-(intOf i).toNat)
 case atStart=>exact⟨0,l.length,Nat.zero_le _,D,Nat.le_refl _,rfl,rfl⟩
 case round=>
  obtain⟨u,v,r,C,hv,rfl,rfl⟩:=hrel
  by_cases hlt:u<v
  · have O:IntKind.u64.wrap ((u:Int)+(v:Int))=(u:Int)+(v:Int):=by rw [IntKind.wrap_u64];omega
    obtain⟨m,F⟩:∃m:Nat,m=(u+v) / 2:=⟨_,rfl⟩
    have n:((u:Int)+(v:Int)) / 2=(m:Int):=by omega
    have k:u<=m/\m<v:=by omega
    obtain⟨b,c,rfl,M,f⟩:∃b c,ao=some ⟨b,c,none⟩/\b<w.heap.size/\Seg w b c l:=by
     rcases H.out with h | h
     · rw [h] at hv;simp at hv;omega
     · exact h
    have G:=f m (by omega)
    have J:w.cell? ⟨b,c+(u+v) / 2,none⟩=some (.int .i64 (nth l m)):=by rw [<-F];exact G
    have N:=n0Z m
    have K:(m:Int)<(l.length:Int):=by omega
    have o:=Za n
    have g:=Za k
    have d:=Za (pLess (nth l m) x w)
    have E:Hid ((nth l m<x->m<p)/\(¬nth l m<x->p<=m)):=⟨fun h=>by
     rcases Nat.lt_or_ge m p with e | e
     · exact e
     · have:=s.out m e (by omega);omega,fun h=>by
     rcases Nat.lt_or_ge m p with e | e
     · exact absurd (B.out m e) h
     · exact e⟩
    clear n F k f
    generalize nth l m=y at *
    by_cases hyx:y<x
    · rw [decide_eq_true hyx] at d
      have q:=E.out.1 hyx
      clear hyx
      go_wp2_with fail
      refine d.out.mono ?_
      rintro e z ⟨rfl,I⟩
      subst z
      go_wp2_with fail
      go_round
      case rel=>exact⟨m+1,v,by omega,C,hv,by have:=o.out;rw [this];go_num,rfl⟩
      case measure=>have:=g.out;simp [intOf];omega
    · rw [decide_eq_false hyx] at d
      have q:=E.out.2 hyx
      clear hyx
      go_wp2_with fail
      refine d.out.mono ?_
      rintro e z ⟨rfl,I⟩
      subst z
      go_wp2_with fail
      go_round
      case rel=>exact⟨u,m,r,q,by have:=g.out;omega,rfl,by rw [o.out]⟩
      case measure=>have:=g.out;simp [intOf];omega
  · obtain rfl:u=p:=by omega
    by_cases hp:u<l.length
    · obtain⟨b,c,rfl,M,f⟩:∃b c,ao=some ⟨b,c,none⟩/\b<w.heap.size/\Seg w b c l:=by
       rcases H.out with h | h
       · rw [h] at hp;simp at hp
       · exact h
      have G:=f u hp
      have t:(u:Int)<(l.length:Int):=by omega
      have L:=n0Z u
      by_cases hyx:nth l u=x
      · have A:(nth l u ==x)=true:=by simp [hyx]
        clear hyx
        generalize nth l u=y at *
        go_wp2_with (go_at_call 234;refine (ZoI _ _).mono ?_;rintro e w' ⟨rfl,rfl⟩)
        go_ret2
        exact⟨by first | exact⟨_,rfl⟩ | exact Or.inl rfl | exact Or.inr rfl | simp,Below.refl _ _⟩
      · have A:(nth l u ==x)=false:=by simp [hyx]
        clear hyx
        generalize nth l u=y at *
        go_wp2_with (go_at_call 234;refine (ZoI _ _).mono ?_;rintro e w' ⟨rfl,rfl⟩)
        go_ret2
        exact⟨by first | exact⟨_,rfl⟩ | exact Or.inl rfl | exact Or.inr rfl | simp,Below.refl _ _⟩
    · have t:¬((u:Int)<(l.length:Int)):=by omega
      go_wp2_with fail
      go_ret2
      exact⟨by first | exact⟨_,rfl⟩ | exact Or.inl rfl | exact Or.inr rfl | simp,Below.refl _ _⟩
def Zcv(w:World)(b:Nat)(x y z:Value)(t:TypeId):Prop:=w.heap[b]? =some (.cells #[x,y,z] t (0,0))
theorem Zcv.c0{w:World}{b:Nat}{x y z:Value}{t:TypeId}(h:Zcv w b x y z t):w.cell? ⟨b,0,none⟩=some x:=(ZN h).1
theorem Zcv.c1{w:World}{b:Nat}{x y z:Value}{t:TypeId}(h:Zcv w b x y z t):w.cell? ⟨b,1,none⟩=some y:=(ZN h).2.1
theorem Zcv.c2{w:World}{b:Nat}{x y z:Value}{t:TypeId}(h:Zcv w b x y z t):w.cell? ⟨b,2,none⟩=some z:=(ZN h).2.2.1
theorem Zcv.frozen{w:World}{b:Nat}{x y z:Value}{t:TypeId}(h:Zcv w b x y z t)(j:Nat):w.frozen? ⟨b,j,none⟩=false:=by unfold Zcv at h;simp [World.frozen?,h]
theorem Zcv.lt{w:World}{b:Nat}{x y z:Value}{t:TypeId}(h:Zcv w b x y z t):b<w.heap.size:=by
 rcases Nat.lt_or_ge b w.heap.size with e | e
 · exact e
 · unfold Zcv at h;rw [Array.getElem?_eq_none e] at h;cases h
theorem ZdA(hs:List Zv)(i:Nat):(Zg hs).drop (i*3)=Zg (hs.drop i):=by
 induction hs generalizing i with
 | nil=>simp [Zg]
 | cons x hs ih=>
   match i with
   | 0=>simp
   | i+1=>
     rw [show (i+1)*3=i*3+1+1+1 by omega]
     simp [Zg,ih]
theorem Zh1{A B S X:List Value}(hX:X.length=3)(hS:3<=S.length):
 splice (splice (A++(B++S)) (A.length+3) B) A.length X=A++(X++(B++S.drop 3)):=by
 have a:splice (A++(B++S)) (A.length+3) B=A++((B++S).take 3++(B++S.drop 3)):=by
  unfold splice
  rw [List.take_append,List.drop_append]
  rw [List.take_of_length_le (by omega:A.length<=A.length+3),List.drop_of_length_le (by omega:A.length<=A.length+3+B.length)]
  rw [show A.length+3-A.length=3 by omega,show A.length+3+B.length-A.length=B.length+3 by omega]
  rw [List.drop_append,List.drop_of_length_le (by omega:B.length<=B.length+3),show B.length+3-B.length=3 by omega]
  simp
 have b:((B++S).take 3).length=3:=by simp;omega
 rw [a]
 unfold splice
 rw [List.take_left',List.drop_append,hX]
 · rw [List.drop_of_length_le (by omega:A.length<=A.length+3),show A.length+3-A.length=3 by omega]
   rw [List.drop_left' b]
   simp
 · rfl
theorem ZcN{base:Nat}{w:World}{g c:Nat}{hs:List Zv}(h:Zq base w g c hs):∃S:List Value,w.heap[g]? =some (.cells (Zg hs++S).toArray 87 (0,0))/\S.length=(c-hs.length)*3/\base<=g/\hs.length<=c/\c<=maxLen:=by
 obtain⟨b,a⟩:=h
 rcases a with ⟨e,_⟩ | ⟨g',cp,cur,e,hb,hg,hnc,hcm,hsz,htk⟩
 · cases e
 · injection e with e1 e2 e3
   injection e1 with e1
   injection e1 with e1
   subst e1 e3
   refine⟨cur.toList.drop (hs.length*3),?_,?_,hb,hnc,hcm⟩
   · have:(Zg hs++cur.toList.drop (hs.length*3)).toArray=cur:=by rw [<-htk,List.take_append_drop]
     rw [this];exact hg
   · rw [List.length_drop,Array.length_toList,hsz,Nat.sub_mul]
theorem Zgq{base:Nat}{w:World}{g c:Nat}{hs:List Zv}{S:List Value}(hg:w.heap[g]? =some (.cells (Zg hs++S).toArray 87 (0,0)))(hS:S.length=(c-hs.length)*3)(hb:base<=g)(hnc:hs.length<=c)(hcm:c<=maxLen):Zq base w g c hs:=by
 refine⟨ZM hs,Or.inr ⟨g,c,_,rfl,hb,hg,hnc,hcm,?_,?_⟩⟩
 · simp [ZM,hS]
   rw [<-Nat.add_mul]
   congr 1
   omega
 · have e:(Zg hs++S).toArray.toList=Zg hs++S:=rfl
   rw [e,List.take_left' (ZM hs)]
theorem Zh2(base g c i vb:Nat)(hs:List Zv)(h:Zv)(w:World)(hr:Zq base w g c hs)(hv:Zcv w vb (.int .i64 h.1) (.int .i64 h.2.1) (.int .i64 h.2.2) 87)(hne:vb≠g)(hi:i<hs.length)(hroom:hs.length+1<=c)(hn:hs.length<=60):
 Calls Tryz.prog 89 #[.slice (some ⟨g,0,none⟩) hs.length c,.int .i64 i,.slice (some ⟨vb,0,none⟩) 1 1] w fun e w'=>e=.returned (.slice (some ⟨g,0,none⟩) (hs.length+1) c)/\Zq base w' g c (hs.take i++h::hs.drop i)/\w.grownBy w' (some g):=by
 obtain⟨S,l,G,T,W,M⟩:=ZcN hr
 have N:∀o P R,(callFunc 136 #[.slice (some ⟨vb,0,none⟩) 1 1,.slice (some ⟨g,o,none⟩) P R]).run Tryz.prog w=.ok (.value (.bool false)) w:=fun o P R=>by
  rw [run_callFunc_extern Tryz.func136 (by kernel_rfl) (by kernel_rfl) (by kernel_rfl) (e:=Extern.SlicesOverlaps.overlaps #[42,42] #[4]) (by kernel_rfl),
   Lib.run_overlaps_apart w 42 4 87 Tryz.underlying42 3 (fun _=>by kernel_rfl) ⟨vb,0,none⟩ ⟨g,o,none⟩ 1 1 P R hne 87 87 3 (Zg hs++S).length (by unfold Zcv at hv;simp [World.shape?,hv]) (by simp [World.shape?,l]) (by rw [List.length_append,ZM];omega) (hv.frozen 0) (hv.frozen 3)]
  rfl
 have s:(Tryz.prog.info? 87).map (·.size)=some 3:=by kernel_rfl
 have t:Zg hs++S=Zg (hs.take i)++(Zg (hs.drop i)++S):=by rw [<-List.append_assoc,<-ZO,List.take_append_drop]
 have I:(Zg (hs.take i)).length=i*3:=by rw [ZM];simp;omega
 have p:(Zg (hs.drop i)).length=(hs.length-i)*3:=by rw [ZM];simp
 obtain⟨f,n⟩:∃f,f=splice (Zg hs++S) ((i+1)*3) (Zg (hs.drop i)):=⟨_,rfl⟩
 have q:f.length=(Zg hs++S).length:=by rw [n];exact length_splice _ _ _ (by rw [p,List.length_append,ZM,G];omega)
 obtain⟨y,z⟩:∃y,y=splice f (i*3) [.int .i64 h.1,.int .i64 h.2.1,.int .i64 h.2.2]:=⟨_,rfl⟩
 have F:y=Zg (hs.take i++h::hs.drop i)++S.drop 3:=by
  have J:=Zh1 (A:=Zg (hs.take i)) (B:=Zg (hs.drop i)) (S:=S) (X:=[.int .i64 h.1,.int .i64 h.2.1,.int .i64 h.2.2]) rfl (by omega)
  rw [z,n,t,show (i+1)*3=(Zg (hs.take i)).length+3 by omega,<-I,J,ZO]
  simp [Zg]
 have K:ZkL w g (Zg hs):=fun j v a=>by
  have Q:j<(Zg hs).length:=by
   rcases Nat.lt_or_ge j (Zg hs).length with J | J
   · exact J
   · rw [List.getElem?_eq_none J] at a;cases a
  simp only [World.cell?,l]
  simp [List.getElem?_append_left Q,a]
 have r:∀D x O,(Builtin.copy_ #[42,42] D #[.slice (some ⟨g,(i+1)*3,none⟩) (hs.length-i) x,.slice (some ⟨g,i*3,none⟩) (hs.length+1-i) O]).run Tryz.prog w.drew=.ok (goInt (Nat.min (hs.length+1-i) (hs.length-i))) (w.drew.setRow g f.toArray):=fun D x O=>by
  rw [n]
  exact Zaj w.drew _ _ D 87 g ((i+1)*3) (hs.length-i) x ⟨g,i*3,none⟩ (hs.length+1-i) O 3 (Zg hs++S) 87 (Zg (hs.drop i)) Tryz.underlying42 s l (by rw [p];congr 1;simp only [Nat.min_def];split <;> omega) (by rw [p,List.length_append,ZM,G];omega)
   (fun j v a=>by
     rw [<-ZdA,List.getElem?_drop] at a
     rw [Addr.add_lit]
     exact K (i*3+j) v a) (ZcG _)
 obtain⟨d,b⟩:∃d,d=w.drew.setRow g f.toArray:=⟨_,rfl⟩
 have C:d.heap[g]? =some (.cells f.toArray 87 (0,0)):=by rw [b];exact setRow_heap w.drew g _ _ 87 _ l
 have m:Zcv d vb (.int .i64 h.1) (.int .i64 h.2.1) (.int .i64 h.2.2) 87:=by rw [b];exact (setRow_other w.drew g vb f.toArray hne).trans hv
 have E:Nat.min 1 (hs.length+1-i)=1:=by simp only [Nat.min_def];split <;> omega
 have V:∀D x,(Builtin.copy_ #[42,42] D #[.slice (some ⟨g,i*3,none⟩) (hs.length+1-i) x,.slice (some ⟨vb,0,none⟩) 1 1]).run Tryz.prog d=.ok (goInt (Nat.min 1 (hs.length+1-i))) (d.setRow g y.toArray):=fun D x=>by
  rw [z]
  exact Zaj d _ _ D 87 g (i*3) (hs.length+1-i) x ⟨vb,0,none⟩ 1 1 3 f 87 [.int .i64 h.1,.int .i64 h.2.1,.int .i64 h.2.2] Tryz.underlying42 s C (by rw [E];rfl) (by rw [q,List.length_append,ZM];simp;omega)
   (fun j v a=>by
     rw [Addr.add_lit]
     match j,a with
     | 0,a=>simp at a;rw [<-a];exact m.c0
     | 1,a=>simp at a;rw [<-a];exact m.c1
     | 2,a=>simp at a;rw [<-a];exact m.c2
     | j+3,a=>simp at a) (by intro v hv;simp at hv;rcases hv with rfl | rfl | rfl <;> rfl)
 rw [<-b] at r
 have u:Hid (Zq base (d.setRow g y.toArray) g c (hs.take i++h::hs.drop i)/\w.grownBy (d.setRow g y.toArray) (some g)):=by
  refine⟨Zgq (S:=S.drop 3) ?_ ?_ T ?_ M,?_⟩
  · rw [<-F];exact setRow_heap d g _ _ 87 _ C
  · simp;omega
  · simp;omega
  · refine⟨by rw [b];rfl,by rw [b];rfl,by rw [b];rfl,by rw [b];simp [World.setRow],fun k _ Z=>?_⟩
    have H:k≠g:=fun e=>Z (by rw [e])
    rw [setRow_other d g k y.toArray H,b]
    exact setRow_other w.drew g k f.toArray H
 clear K m C F q n z t I p b
 have a2:¬((i:Int)=(hs.length:Int)):=by omega
 have a1:IntKind.i64.wrap ((i:Int)+1)=(i:Int)+1:=by rw [IntKind.wrap_i64];omega
 have a8:IntKind.i64.wrap ((hs.length:Int)+1)=(hs.length:Int)+1:=by rw [IntKind.wrap_i64];omega
 have a9:¬((hs.length:Int)+1 > (c:Int)):=by omega
 have a0:i<=hs.length:=by omega
 have U:(i:Int)<=(hs.length:Int):=by omega
 have a6:(0:Int)<=(i:Int)+1:=by omega
 have Y:((i:Int)+1).toNat=i+1:=by omega
 have a5:¬(c=i+1):=by omega
 have a3:(i:Int)<=(hs.length:Int)+1:=by omega
 have a4:¬(c=i):=by omega
 have L:Tryz.prog.follows Departure.mixedOrders=true:=by kernel_rfl
 have a7:(i:Int)+1<=(hs.length:Int)+1:=by omega
 go_enter Tryz.func89,Tryz.ntmps89
 go_wp2_with (simp only [N])
 go_region_law_o (refine step_copy_runI rfl _ _ 42 42 rfl _ _ (by simp [Act.eval,Act.put]) (by simp [Act.eval,Act.put]) (r _ _ _) ?_)
 go_wp2_with fail
 go_ret
 exact⟨rfl,u.out.1,u.out.2⟩
theorem Zg8{A B Z X:List Value}(hX:X.length=3):
 splice (splice (A++Z) A.length X) (A.length+3) B=A++(X++(B++Z.drop (3+B.length))):=by
 have b:splice (A++Z) A.length X=A++(X++Z.drop 3):=by
  unfold splice
  rw [List.take_left',List.drop_append,hX]
  · rw [List.drop_of_length_le (by omega:A.length<=A.length+3),show A.length+3-A.length=3 by omega]
    simp
  · rfl
 rw [b]
 have c:A++(X++Z.drop 3)=(A++X)++Z.drop 3:=by simp
 have a:(A++X).length=A.length+3:=by simp [hX]
 rw [c]
 unfold splice
 rw [List.take_left' a,List.drop_append,a]
 rw [List.drop_of_length_le (by omega:(A++X).length<=A.length+3+B.length),show A.length+3+B.length-(A.length+3)=B.length by omega,List.drop_drop]
 simp [Nat.add_comm]
theorem Zjd(base g c i vb:Nat)(hs:List Zv)(h:Zv)(w:World)(hr:Zq base w g c hs)(hv:Zcv w vb (.int .i64 h.1) (.int .i64 h.2.1) (.int .i64 h.2.2) 87)(hi:i<hs.length)(hroom:c<hs.length+1)(hn:hs.length<=60)(hbw:base<=w.heap.size):
 Calls Tryz.prog 89 #[.slice (some ⟨g,0,none⟩) hs.length c,.int .i64 i,.slice (some ⟨vb,0,none⟩) 1 1] w fun e w'=>∃G,e=.returned (.slice (some ⟨w.heap.size,0,none⟩) (hs.length+1) G)/\Zq base w' w.heap.size G (hs.take i++h::hs.drop i)/\Below w.heap.size w w':=by
 obtain⟨S,T,a7,ax,ag,am⟩:=ZcN hr
 obtain⟨j0,a8,a6,aa,U⟩:=info_parts (P:=Tryz.prog) (e:=87) (z:=.agg #[.int .i64 0,.int .i64 0,.int .i64 0]) (size:=3) (bytes:=24) (by kernel_rfl)
 have H:(Tryz.prog.info? 87).map (·.size)=some 3:=by kernel_rfl
 have a2:g<w.heap.size:=hr.lt.2
 have a5:vb<w.heap.size:=hv.lt
 have C:ZkL w g (Zg hs):=fun j v a=>by
  have O:j<(Zg hs).length:=by
   rcases Nat.lt_or_ge j (Zg hs).length with l | l
   · exact l
   · rw [List.getElem?_eq_none l] at a;cases a
  simp only [World.cell?,T]
  simp [List.getElem?_append_left O,a]
 have d:(Zg (hs.take i)).length=i*3:=by rw [ZM];simp;omega
 have x:(Zg (hs.drop i)).length=(hs.length-i)*3:=by rw [ZM];simp
 have a0:(loadCells ⟨g,0,none⟩ (i*3)).run Tryz.prog w.drew=.ok (Zg (hs.take i)).toArray w.drew:=by
  have l:=run_loadCells_list (P:=Tryz.prog) w.drew ⟨g,0,none⟩ (Zg (hs.take i)) (fun j v a=>by
   rw [Addr.add_lit,Nat.zero_add]
   refine C j v ?_
   have O:j<(Zg (hs.take i)).length:=by
    rcases Nat.lt_or_ge j (Zg (hs.take i)).length with l | l
    · exact l
    · rw [List.getElem?_eq_none l] at a;cases a
   have e:Zg hs=Zg (hs.take i)++Zg (hs.drop i):=by rw [<-ZO,List.take_append_drop]
   rw [e,List.getElem?_append_left O];exact a)
  rwa [d] at l
 have D:(Builtin.firstCells j0.size i (.slice (some ⟨g,0,none⟩) i c)).run Tryz.prog w.drew=.ok (Zg (hs.take i)).toArray w.drew:=by
  rw [aa]
  simp [Builtin.firstCells,a0]
 have k:=fun y=>Lib.run_append_grow_zeros (P:=Tryz.prog) w 42 3 y 87 j0 _ .i64 .i64 Tryz.underlying42 Tryz.underlying3 a8 a6 (some ⟨g,0,none⟩) i c (Zg (hs.take i)) D (hs.length+1-i) (by omega) (by omega) (by omega) (by omega) (by rw [U];omega) (growslice_fits (by omega) (by rw [U];omega))
 rw [show i+(hs.length+1-i)=hs.length+1 by omega,show ((hs.length+1-i:Nat):Int)=(hs.length:Int)+1-(i:Int) by omega] at k
 have ab:=grownCap_ge w (hs.length+1) c 87
 have a3:=grownCap_le_maxLen w (hs.length+1) c 87 (by unfold maxLen;omega)
 obtain⟨G,hG⟩:∃G,G=grownCap w (hs.length+1) c 87:=⟨_,rfl⟩
 rw [<-hG] at k ab a3
 obtain⟨Z,hZ⟩:∃Z,Z=(Builtin.zeroCells (Value.agg #[.int .i64 0,.int .i64 0,.int .i64 0]).cells (hs.length+1-i)).toList++(Builtin.zeroCells (Value.agg #[.int .i64 0,.int .i64 0,.int .i64 0]).cells (G-(hs.length+1))).toList:=⟨_,rfl⟩
 have f:Z.length=(G-i)*3:=by
  have e:∀m,(Builtin.zeroCells (Value.agg #[.int .i64 0,.int .i64 0,.int .i64 0]).cells m).toList.length=m*3:=fun m=>by simp [Builtin.zeroCells,Value.cells]
  rw [hZ,List.length_append,e,e]
  omega
 have b:(Zg (hs.take i)).toArray++Builtin.zeroCells (Value.agg #[.int .i64 0,.int .i64 0,.int .i64 0]).cells (hs.length+1-i)++Builtin.zeroCells (Value.agg #[.int .i64 0,.int .i64 0,.int .i64 0]).cells (G-(hs.length+1))=(Zg (hs.take i)++Z).toArray:=by
  apply Array.ext'
  rw [hZ]
  simp
 rw [b] at k
 obtain⟨n,u⟩:∃n,n=w.drew.alloc (.cells (Zg (hs.take i)++Z).toArray 87):=⟨_,rfl⟩
 rw [<-u] at k
 have q:Below w.heap.size w n:=by rw [u];exact ((Below.refl w.heap.size w).drew).alloc (Nat.le_refl _) _
 have N:n.heap[w.heap.size]? =some (.cells (Zg (hs.take i)++Z).toArray 87 (0,0)):=by rw [u];exact heap_alloc_new w.drew _
 have s:Zcv n vb (.int .i64 h.1) (.int .i64 h.2.1) (.int .i64 h.2.2) 87:=(q.block vb a5).trans hv
 have V:ZkL n g (Zg hs):=fun j v a=>(q.cell (p:=⟨g,j,none⟩) a2).trans (C j v a)
 obtain⟨E,t⟩:∃E,E=splice (Zg (hs.take i)++Z) (i*3) [.int .i64 h.1,.int .i64 h.2.1,.int .i64 h.2.2]:=⟨_,rfl⟩
 have F:E.length=(Zg (hs.take i)++Z).length:=by rw [t];exact length_splice _ _ _ (by rw [List.length_append,d,f];simp;omega)
 obtain⟨R,M⟩:∃R,R=splice E ((i+1)*3) (Zg (hs.drop i)):=⟨_,rfl⟩
 have W:R=Zg (hs.take i++h::hs.drop i)++Z.drop (3+(Zg (hs.drop i)).length):=by
  have l:=Zg8 (A:=Zg (hs.take i)) (B:=Zg (hs.drop i)) (Z:=Z) (X:=[.int .i64 h.1,.int .i64 h.2.1,.int .i64 h.2.2]) rfl
  rw [M,t,show (i+1)*3=(Zg (hs.take i)).length+3 by omega,<-d,l,ZO]
  simp [Zg]
 have Q:Nat.min 1 (hs.length+1-i)=1:=by simp only [Nat.min_def];split <;> omega
 have Y:∀y K,(Builtin.copy_ #[42,42] y #[.slice (some ⟨w.heap.size,i*3,none⟩) (hs.length+1-i) K,.slice (some ⟨vb,0,none⟩) 1 1]).run Tryz.prog n=.ok (goInt (Nat.min 1 (hs.length+1-i))) (n.setRow w.heap.size E.toArray):=fun y K=>by
  rw [t]
  exact Zaj n _ _ y 87 w.heap.size (i*3) (hs.length+1-i) K ⟨vb,0,none⟩ 1 1 3 (Zg (hs.take i)++Z) 87 [.int .i64 h.1,.int .i64 h.2.1,.int .i64 h.2.2] Tryz.underlying42 H N (by rw [Q];rfl) (by rw [List.length_append,d,f];simp;omega)
   (fun j v a=>by
     rw [Addr.add_lit]
     match j,a with
     | 0,a=>simp at a;rw [<-a];exact s.c0
     | 1,a=>simp at a;rw [<-a];exact s.c1
     | 2,a=>simp at a;rw [<-a];exact s.c2
     | j+3,a=>simp at a) (by intro v hv;simp at hv;rcases hv with rfl | rfl | rfl <;> rfl)
 obtain⟨o,r⟩:∃o,o=n.setRow w.heap.size E.toArray:=⟨_,rfl⟩
 have J:o.heap[w.heap.size]? =some (.cells E.toArray 87 (0,0)):=by rw [r];exact setRow_heap n w.heap.size _ _ 87 _ N
 have L:Below w.heap.size w o:=by rw [r];exact below_setRow q (Nat.le_refl _) _
 have a1:∀y K sc,(Builtin.copy_ #[42,42] y #[.slice (some ⟨w.heap.size,(i+1)*3,none⟩) (hs.length-i) K,.slice (some ⟨g,i*3,none⟩) (hs.length-i) sc]).run Tryz.prog o.drew=.ok (goInt (Nat.min (hs.length-i) (hs.length-i))) (o.drew.setRow w.heap.size R.toArray):=fun y K sc=>by
  rw [M]
  exact Zaj o.drew _ _ y 87 w.heap.size ((i+1)*3) (hs.length-i) K ⟨g,i*3,none⟩ (hs.length-i) sc 3 E 87 (Zg (hs.drop i)) Tryz.underlying42 H J (by rw [x];congr 1;simp only [Nat.min_def];split <;> omega) (by rw [F,List.length_append,d,f,x];omega)
   (fun j v a=>by
     rw [<-ZdA,List.getElem?_drop] at a
     rw [Addr.add_lit]
     exact (L.cell (p:=⟨g,i*3+j,none⟩) a2).trans (C (i*3+j) v a)) (ZcG _)
 rw [<-r] at Y
 have I:Hid (Zq base (o.drew.setRow w.heap.size R.toArray) w.heap.size G (hs.take i++h::hs.drop i)/\Below w.heap.size w (o.drew.setRow w.heap.size R.toArray)):=by
  refine⟨Zgq (S:=Z.drop (3+(Zg (hs.drop i)).length)) ?_ ?_ hbw ?_ a3,below_setRow L.drew (Nat.le_refl _) _⟩
  · rw [<-W];exact setRow_heap o.drew w.heap.size _ _ 87 _ J
  · rw [List.length_drop,x,f];simp;omega
  · simp;omega
 have ay:(hs.length:Int)+1 > (c:Int):=by omega
 have al:¬((i:Int)=(hs.length:Int)):=by omega
 have ak:IntKind.i64.wrap ((i:Int)+1)=(i:Int)+1:=by rw [IntKind.wrap_i64];omega
 have av:IntKind.i64.wrap ((hs.length:Int)+1)=(hs.length:Int)+1:=by rw [IntKind.wrap_i64];omega
 have an:IntKind.i64.wrap ((hs.length:Int)+1-(i:Int))=(hs.length:Int)+1-(i:Int):=by rw [IntKind.wrap_i64];omega
 have aj:i<=hs.length:=by omega
 have af:(i:Int)<=(hs.length:Int):=by omega
 have au:(i:Int)<=(c:Int):=by omega
 have ar:(0:Int)<=(i:Int)+1:=by omega
 have ah:((i:Int)+1).toNat=i+1:=by omega
 have aq:¬(G=i+1):=by omega
 have ao:(i:Int)<=(hs.length:Int)+1:=by omega
 have ap:¬(G=i):=by omega
 have ai:¬(c=i):=by omega
 have aw:(i:Int)+1<=(hs.length:Int)+1:=by omega
 have a4:Tryz.prog.follows Departure.mixedOrders=true:=by kernel_rfl
 clear C V s N J W F t M d x u r L q D a0 hG hZ f b hr T a7
 go_enter Tryz.func89,Tryz.ntmps89
 go_wp2_with (at_builtin;refine Lib.wpList_append_run _ rfl _ _ _ _ rfl _ _ rfl rfl _ _ (k _) ?_)
 go_region_law_o (refine step_copy_runI rfl _ _ 42 42 rfl _ _ (by simp [Act.eval,Act.put]) (by simp [Act.eval,Act.put]) (a1 _ _ _) ?_)
 go_wp2_with fail
 go_ret
 exact⟨G,rfl,I.out.1,I.out.2⟩
theorem ZkO(base c vb:Nat)(a:Option Addr)(hs:List Zv)(h:Zv)(w:World)(hr:w.ownsRow base 87 3 (.slice a hs.length c) hs.length (Zg hs))(hv:Zcv w vb (.int .i64 h.1) (.int .i64 h.2.1) (.int .i64 h.2.2) 87)(hn:hs.length<=60)(hbw:base<=w.heap.size):
 Calls Tryz.prog 89 #[.slice a hs.length c,.int .i64 hs.length,.slice (some ⟨vb,0,none⟩) 1 1] w fun e w'=>∃g G,e=.returned (.slice (some ⟨g,0,none⟩) (hs.length+1) G)/\Zq base w' g G (hs++[h])/\w.grownBy w' (Value.slice a hs.length c).ownBlock/\((Value.slice a hs.length c).ownBlock=some g\/g=w.heap.size):=by
 obtain⟨r,j,k,m,l⟩:=info_parts (P:=Tryz.prog) (e:=87) (z:=.agg #[.int .i64 0,.int .i64 0,.int .i64 0]) (size:=3) (bytes:=24) (by kernel_rfl)
 have p:=Za hr
 have s:=Za hv
 have y:(hs.length:Int)<=(hs.length:Int):=Int.le_refl _
 obtain⟨_,x⟩:=hr
 rcases x with ⟨e,e2⟩ | ⟨g',cp,cur,e,hb,hg,hnc,hcm,hsz,htk⟩
 · injection e with e1 e3 e4
   subst e1 e4
   have q:hs=[]:=List.length_eq_zero_iff.1 e3
   subst q
   simp only [List.length_nil] at *
   go_enter Tryz.func89,Tryz.ntmps89
   go_wp2_with (at_builtin;refine wpList_append_lies _ rfl (.tmp 23) (.tmp 24) 42 rfl base 87 r _ 3 24 Tryz.underlying42 j k m l rfl (by omega) (.slice none 0 0) 0 (Zg []) rfl p.out ⟨vb,0,none⟩ 1 1 [.int .i64 h.1,.int .i64 h.2.1,.int .i64 h.2.2] rfl rfl (World.news_of_block (cs:=#[.int .i64 h.1,.int .i64 h.2.1,.int .i64 h.2.2]) (t:=87) (fr:=(0,0)) s.out) (by simp [Value.oneCell']) (by omega) (by unfold maxLen;omega) (by omega) hbw w.heap.size rfl ?_;intro n o u d b f i)
   go_ret
   exact⟨n,o,rfl,Zq.of d rfl rfl,b,f⟩
 · injection e with e1 e3 e4
   subst e1 e4
   by_cases hcn:c=hs.length
   · rw [hcn] at p ⊢
     go_enter Tryz.func89,Tryz.ntmps89
     go_wp2_with (at_builtin;refine wpList_append_lies _ rfl (.tmp 23) (.tmp 24) 42 rfl base 87 r _ 3 24 Tryz.underlying42 j k m l rfl (by omega) (.slice (some ⟨g',0,none⟩) hs.length hs.length) hs.length (Zg hs) rfl p.out ⟨vb,0,none⟩ 1 1 [.int .i64 h.1,.int .i64 h.2.1,.int .i64 h.2.2] rfl rfl (World.news_of_block (cs:=#[.int .i64 h.1,.int .i64 h.2.1,.int .i64 h.2.2]) (t:=87) (fr:=(0,0)) s.out) (by simp [Value.oneCell']) (by omega) (by unfold maxLen;omega) (by omega) hbw w.heap.size rfl ?_;intro n o u d b f i)
     go_ret
     exact⟨n,o,rfl,Zq.of d (by simp) (by rw [ZO];rfl),b,f⟩
   · have v:¬(c=hs.length):=hcn
     go_enter Tryz.func89,Tryz.ntmps89
     go_wp2_with (at_builtin;refine wpList_append_lies _ rfl (.tmp 23) (.tmp 24) 42 rfl base 87 r _ 3 24 Tryz.underlying42 j k m l rfl (by omega) (.slice (some ⟨g',0,none⟩) hs.length c) hs.length (Zg hs) rfl p.out ⟨vb,0,none⟩ 1 1 [.int .i64 h.1,.int .i64 h.2.1,.int .i64 h.2.2] rfl rfl (World.news_of_block (cs:=#[.int .i64 h.1,.int .i64 h.2.1,.int .i64 h.2.2]) (t:=87) (fr:=(0,0)) s.out) (by simp [Value.oneCell']) (by omega) (by unfold maxLen;omega) (by omega) hbw w.heap.size rfl ?_;intro n o u d b f i)
     go_ret
     exact⟨n,o,rfl,Zq.of d (by simp) (by rw [ZO];rfl),b,f⟩
theorem ZkP(base c i vb:Nat)(a:Option Addr)(hs:List Zv)(h:Zv)(w:World)(hr:w.ownsRow base 87 3 (.slice a hs.length c) hs.length (Zg hs))(hv:Zcv w vb (.int .i64 h.1) (.int .i64 h.2.1) (.int .i64 h.2.2) 87)(hne:(Value.slice a hs.length c).ownBlock≠some vb)(hi:i<=hs.length)(hn:hs.length<=60)(hbw:base<=w.heap.size):
 Calls Tryz.prog 89 #[.slice a hs.length c,.int .i64 i,.slice (some ⟨vb,0,none⟩) 1 1] w fun e w'=>∃g G,e=.returned (.slice (some ⟨g,0,none⟩) (hs.length+1) G)/\Zq base w' g G (hs.take i++h::hs.drop i)/\w.grownBy w' (Value.slice a hs.length c).ownBlock/\((Value.slice a hs.length c).ownBlock=some g\/g=w.heap.size):=by
 rcases Nat.lt_or_ge i hs.length with hlt | hge
 · obtain⟨g,rfl⟩:∃g,a=some ⟨g,0,none⟩:=by
    obtain⟨_,b⟩:=hr
    rcases b with ⟨e,e2⟩ | ⟨g',cp,cur,e,_⟩
    · omega
    · injection e with e1;exact⟨g',e1⟩
   have hrow:Zq base w g c hs:=hr
   have f:vb≠g:=fun e=>hne (by simp [Value.ownBlock,e])
   rcases Nat.lt_or_ge c (hs.length+1) with hc | hc
   · refine (Zjd base g c i vb hs h w hrow hv hlt hc hn hbw).mono ?_
     rintro e w' ⟨G,rfl,d,b⟩
     exact⟨w.heap.size,G,rfl,d,⟨b.os,b.tape,b.output,b.size,fun k m _=>b.block k m⟩,Or.inr rfl⟩
   · refine (Zh2 base g c i vb hs h w hrow hv f hlt hc hn).mono ?_
     rintro e w' ⟨rfl,d,b⟩
     exact⟨g,c,rfl,d,b,Or.inl rfl⟩
 · have j:i=hs.length:=by omega
   subst j
   refine (ZkO base c vb a hs h w hr hv hn hbw).mono ?_
   rintro e w' ⟨g,G,rfl,d,b,l⟩
   refine⟨g,G,rfl,?_,b,l⟩
   rw [List.take_length,List.drop_length]
   exact d
end Go.Proofs.YtilkaeclgmcolaaGreat
