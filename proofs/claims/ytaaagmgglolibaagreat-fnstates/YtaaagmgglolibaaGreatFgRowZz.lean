import Derived.Test.YtaaagmgglolibaaGreatHCellsZz
import Derived.Test.YtaaagmgglolibaaGreatArgsZz
import Derived.Test.YtaaagmgglolibaaGreatBCopyZz
import Derived.Test.YtaaagmgglolibaaGreatAppendZz
import Derived.Shelf.Spec.SlicesInsert
import Derived.Laws.CopyOwn
import Derived.Lib.AppendZerosOnto
import Derived.Deep.RegionHeld3
import Derived.Test.YtaaagmgglolibaaGreatMathZz
import Derived.BigQuiet
import Derived.Test.YtaaagmgglolibaaGreatFg0Zz
import Derived.Test.YtaaagmgglolibaaGreatHSpecZz
import Derived.Test.YtaaagmgglolibaaGreatJRwZz
import Derived.Test.YtaaagmgglolibaaGreatCopyZz
import Derived.Test.YtaaagmgglolibaaGreatLastZz
import Derived.Test.YtaaagmgglolibaaGreatSCellsZz
import Derived.Test.YtaaagmgglolibaaGreatKSuitZz
import Derived.Test.YtaaagmgglolibaaGreatFeHelpZz
set_option maxRecDepth 100000
set_option maxHeartbeats 4000000
namespace Go.Proofs.YtaaagmgglolibaaGreat
open Go Go.RowKit
theorem ZbE{P:Program}(w:World)(dT sT ty elem:TypeId)(g o dLen dCap:Nat)(a:Addr)(sLen sCap size:Nat)(cur:List Value)(t:TypeId)(cs:List Value)
 (hu:P.underlying dT=some (.slice elem)) (hs:(P.info? elem).map (·.size)=some size)
 (hg:w.heap[g]? =some (.cells cur.toArray t (0,0))) (hn:cs.length=Nat.min sLen dLen*size) (hfit:o+cs.length<=cur.length)
 (hsrc:∀j v,cs[j]? =some v->w.cell? (a.add j)=some v) (h1:∀v∈cs,v.oneCell'=true):
 (Builtin.copy_ #[dT,sT] ty #[.slice (some ⟨g,o,none⟩) dLen dCap,.slice (some a) sLen sCap]).run P w=.ok (goInt (Nat.min sLen dLen)) (w.setRow g (splice cur o cs).toArray):=by
 have hl:=run_loadCells_list (P:=P) w a cs hsrc
 have hst:=run_storeCells_at P g o t cs 0 cur.toArray w hg (by simpa using hfit) h1
 have e:(cur.toArray.toList.take (o+0)++cs++cur.toArray.toList.drop (o+0+cs.length)).toArray=(splice cur o cs).toArray:=by
  simp [splice]
 rw [e] at hst
 cases hq:P.info? elem with
 | none=>simp [hq] at hs
 | some i=>
   have hi:i.size=size:=by simpa [hq] using hs
   rw [hn] at hl
   simp [Builtin.copy_,run_underlying hu,Builtin.lenOf,Builtin.firstCells,sizeOf,typeInfo,hq,hi,hl,hst]
theorem Zit{A B S X:List Value}(hX:X.length=1)(hS:1<=S.length):
 splice (splice (A++(B++S)) (A.length+1) B) A.length X=A++(X++(B++S.drop 1)):=by
 have e1:splice (A++(B++S)) (A.length+1) B=A++((B++S).take 1++(B++S.drop 1)):=by
  unfold splice
  rw [List.take_append,List.drop_append]
  rw [List.take_of_length_le (by omega:A.length<=A.length+1),List.drop_of_length_le (by omega:A.length<=A.length+1+B.length)]
  rw [show A.length+1-A.length=1 by omega,show A.length+1+B.length-A.length=B.length+1 by omega]
  rw [List.drop_append,List.drop_of_length_le (by omega:B.length<=B.length+1),show B.length+1-B.length=1 by omega]
  simp
 have h2:((B++S).take 1).length=1:=by simp;omega
 rw [e1]
 unfold splice
 rw [List.take_left',List.drop_append,hX]
 · rw [List.drop_of_length_le (by omega:A.length<=A.length+1),show A.length+1-A.length=1 by omega]
   rw [List.drop_left' h2]
   simp
 · rfl
theorem Zhm{A B Z X:List Value}(hX:X.length=1):
 splice (splice (A++Z) A.length X) (A.length+1) B=A++(X++(B++Z.drop (1+B.length))):=by
 have e1:splice (A++Z) A.length X=A++(X++Z.drop 1):=by
  unfold splice
  rw [List.take_left',List.drop_append,hX]
  · rw [List.drop_of_length_le (by omega:A.length<=A.length+1),show A.length+1-A.length=1 by omega]
    simp
  · rfl
 rw [e1]
 have e2:A++(X++Z.drop 1)=(A++X)++Z.drop 1:=by simp
 have hl:(A++X).length=A.length+1:=by simp [hX]
 rw [e2]
 unfold splice
 rw [List.take_left' hl,List.drop_append,hl]
 rw [List.drop_of_length_le (by omega:(A++X).length<=A.length+1+B.length),show A.length+1+B.length-(A.length+1)=B.length by omega,List.drop_drop]
 simp [Nat.add_comm]
def Seg2(w:World)(g:Nat)(cs:List Value):Prop:=∀j v,cs[j]? =some v->w.cell? ⟨g,j,none⟩=some v
def One(w:World)(p:Nat)(v:Value)(t:TypeId):Prop:=w.heap[p]? =some (.cells #[v] t (0,0))
theorem One.lt{w:World}{p:Nat}{v:Value}{t:TypeId}(h:One w p v t):p<w.heap.size:=by
 unfold One at h
 rcases Nat.lt_or_ge p w.heap.size with h1 | h1
 · exact h1
 · rw [Array.getElem?_eq_none h1] at h;cases h
theorem One.c0{w:World}{p:Nat}{v:Value}{t:TypeId}(h:One w p v t):w.cell? ⟨p,0,none⟩=some v:=by unfold One at h;simp [World.cell?,h]
theorem One.frozen{w:World}{p:Nat}{v:Value}{t:TypeId}(h:One w p v t)(j:Nat):w.frozen? ⟨p,j,none⟩=false:=by unfold One at h;simp [World.frozen?,h]
theorem One.below{w w':World}{p:Nat}{v:Value}{t:TypeId}(h:One w p v t)(hb:Below w.heap.size w w'):One w' p v t:=(hb.block p h.lt).trans h
theorem One.new(w:World)(v:Value)(t:TypeId):One (w.alloc (.cells #[v] t)) w.heap.size v t:=heap_alloc_new w _
theorem Zhn:(Tryz.prog.info? 2).map (fun i=>(i.zero,i.size,i.bytes))=some (some (Value.int .i64 0),1,8):=by kernel_rfl
def Zbf(base:Nat)(w:World)(g c:Nat)(vs:List Value):Prop:=w.ownsRow base 2 1 (.slice (some ⟨g,0,none⟩) vs.length c) vs.length vs
theorem Zbf.lt{base:Nat}{w:World}{g c:Nat}{vs:List Value}(h:Zbf base w g c vs):base<=g/\g<w.heap.size:=World.ownsRow.lt h g rfl
theorem Zey{base:Nat}{w:World}{g c:Nat}{vs:List Value}(h:Zbf base w g c vs):∃S:List Value,w.heap[g]? =some (.cells (vs++S).toArray 2 (0,0))/\S.length=c-vs.length/\base<=g/\vs.length<=c/\c<=maxLen:=by
 obtain⟨h1,h2⟩:=h
 rcases h2 with ⟨e,_⟩ | ⟨g',cp,cur,e,hb,hg,hnc,hcm,hsz,htk⟩
 · cases e
 · injection e with e1 e2 e3
   injection e1 with e1
   injection e1 with e1
   subst e1 e3
   rw [Nat.mul_one] at htk hsz
   refine⟨cur.toList.drop vs.length,?_,?_,hb,hnc,hcm⟩
   · have:(vs++cur.toList.drop vs.length).toArray=cur:=by
      have e:=List.take_append_drop vs.length cur.toList
      rw [htk] at e
      rw [e]
     rw [this];exact hg
   · rw [List.length_drop,Array.length_toList,hsz]
theorem Zho{base:Nat}{w:World}{g c:Nat}{vs:List Value}{S:List Value}(hg:w.heap[g]? =some (.cells (vs++S).toArray 2 (0,0)))(hS:S.length=c-vs.length)(hb:base<=g)(hnc:vs.length<=c)(hcm:c<=maxLen):Zbf base w g c vs:=by
 refine⟨by simp,Or.inr ⟨g,c,_,rfl,hb,hg,hnc,hcm,?_,?_⟩⟩
 · simp [hS];omega
 · have e:(vs++S).toArray.toList=vs++S:=rfl
   rw [e,Nat.mul_one,List.take_left' rfl]
theorem Ziu(base g c i vb:Nat)(hs:List Value)(h:Value)(w:World)(ho:∀v∈hs,v.oneCell'=true)(hho:h.oneCell'=true)(hr:Zbf base w g c hs)(hv:One w vb h 2)(hne:vb≠g)(hi:i<hs.length)(hroom:hs.length+1<=c)(hn:hs.length<=1048576):
 Calls Tryz.prog 241 #[.slice (some ⟨g,0,none⟩) hs.length c,.int .i64 i,.slice (some ⟨vb,0,none⟩) 1 1] w fun e w'=>e=.returned (.slice (some ⟨g,0,none⟩) (hs.length+1) c)/\Zbf base w' g c (hs.take i++h::hs.drop i)/\w.grownBy w' (some g):=by
 obtain⟨S,hgS,hSl,hbg,hnc,hcm⟩:=Zey hr
 have hov:∀o lb cb,(callFunc 275 #[.slice (some ⟨vb,0,none⟩) 1 1,.slice (some ⟨g,o,none⟩) lb cb]).run Tryz.prog w=.ok (.value (.bool false)) w:=fun o lb cb=>by
  rw [run_callFunc_extern Tryz.func275 (by kernel_rfl) (by kernel_rfl) (by kernel_rfl) (e:=Extern.SlicesOverlaps.overlaps #[27,27] #[4]) (by kernel_rfl),
   Lib.run_overlaps_apart w 27 4 2 Tryz.underlying27 1 (fun _=>by kernel_rfl) ⟨vb,0,none⟩ ⟨g,o,none⟩ 1 1 lb cb hne 2 2 1 (hs++S).length (by unfold One at hv;simp [World.shape?,hv]) (by simp [World.shape?,hgS]) (by rw [List.length_append];omega) (hv.frozen 0) (hv.frozen 1)]
  rfl
 have hsz2:(Tryz.prog.info? 2).map (·.size)=some 1:=by kernel_rfl
 have ecur:hs++S=hs.take i++(hs.drop i++S):=by rw [<-List.append_assoc,List.take_append_drop]
 have hAl:(hs.take i).length=i:=by simp;omega
 have hBl:(hs.drop i).length=hs.length-i:=by simp
 obtain⟨C1,hC1⟩:∃C1,C1=splice (hs++S) (i+1) (hs.drop i):=⟨_,rfl⟩
 have hC1l:C1.length=(hs++S).length:=by rw [hC1];exact length_splice _ _ _ (by rw [hBl,List.length_append,hSl];omega)
 obtain⟨C2,hC2⟩:∃C2,C2=splice C1 i [h]:=⟨_,rfl⟩
 have eC2:C2=(hs.take i++h::hs.drop i)++S.drop 1:=by
  have h1:=Zit (A:=hs.take i) (B:=hs.drop i) (S:=S) (X:=[h]) rfl (by omega)
  rw [hAl] at h1
  rw [hC2,hC1,ecur,h1]
  simp
 have hsg:Seg2 w g hs:=fun j v hj=>by
  have hjl:j<hs.length:=by
   rcases Nat.lt_or_ge j hs.length with h1 | h1
   · exact h1
   · rw [List.getElem?_eq_none h1] at hj;cases hj
  simp only [World.cell?,hgS]
  simp [List.getElem?_append_left hjl,hj]
 have hcp1:∀ty dc sc,(Builtin.copy_ #[27,27] ty #[.slice (some ⟨g,i+1,none⟩) (hs.length-i) dc,.slice (some ⟨g,i,none⟩) (hs.length+1-i) sc]).run Tryz.prog w.drew=.ok (goInt (Nat.min (hs.length+1-i) (hs.length-i))) (w.drew.setRow g C1.toArray):=fun ty dc sc=>by
  rw [hC1]
  exact ZbE w.drew _ _ ty 2 g (i+1) (hs.length-i) dc ⟨g,i,none⟩ (hs.length+1-i) sc 1 (hs++S) 2 (hs.drop i) Tryz.underlying27 hsz2 hgS (by rw [hBl,Nat.mul_one];simp only [Nat.min_def];split <;> omega) (by rw [hBl,List.length_append,hSl];omega)
   (fun j v hj=>by
     rw [List.getElem?_drop] at hj
     rw [Addr.add_lit]
     exact hsg (i+j) v hj) (fun v hv=>ho v (List.mem_of_mem_drop hv))
 obtain⟨W1,hW1⟩:∃W1,W1=w.drew.setRow g C1.toArray:=⟨_,rfl⟩
 have hg1:W1.heap[g]? =some (.cells C1.toArray 2 (0,0)):=by rw [hW1];exact setRow_heap w.drew g _ _ 2 _ hgS
 have hv1:One W1 vb h 2:=by rw [hW1];exact (setRow_other w.drew g vb C1.toArray hne).trans hv
 have hmin1:Nat.min 1 (hs.length+1-i)=1:=by simp only [Nat.min_def];split <;> omega
 have hcp2:∀ty dc,(Builtin.copy_ #[27,27] ty #[.slice (some ⟨g,i,none⟩) (hs.length+1-i) dc,.slice (some ⟨vb,0,none⟩) 1 1]).run Tryz.prog W1=.ok (goInt (Nat.min 1 (hs.length+1-i))) (W1.setRow g C2.toArray):=fun ty dc=>by
  rw [hC2]
  exact ZbE W1 _ _ ty 2 g i (hs.length+1-i) dc ⟨vb,0,none⟩ 1 1 1 C1 2 [h] Tryz.underlying27 hsz2 hg1 (by rw [hmin1];rfl) (by rw [hC1l,List.length_append];simp;omega)
   (fun j v hj=>by
     rw [Addr.add_lit]
     match j,hj with
     | 0,hj=>simp at hj;rw [<-hj];exact hv1.c0
     | j+1,hj=>simp at hj) (by intro v hv;simp at hv;rw [hv];exact hho)
 rw [<-hW1] at hcp1
 have HEND:Hid (Zbf base (W1.setRow g C2.toArray) g c (hs.take i++h::hs.drop i)/\w.grownBy (W1.setRow g C2.toArray) (some g)):=by
  refine⟨Zho (S:=S.drop 1) ?_ ?_ hbg ?_ hcm,?_⟩
  · rw [<-eC2];exact setRow_heap W1 g _ _ 2 _ hg1
  · simp;omega
  · simp;omega
  · refine⟨by rw [hW1];rfl,by rw [hW1];rfl,by rw [hW1];rfl,by rw [hW1];simp [World.setRow],fun k _ hk=>?_⟩
    have hkg:k≠g:=fun e=>hk (by rw [e])
    rw [setRow_other W1 g k C2.toArray hkg,hW1]
    exact setRow_other w.drew g k C1.toArray hkg
 clear hsg hv1 hg1 eC2 hC1l hC1 hC2 ecur hAl hBl hW1 ho hho
 have hz2:¬((i:Int)=(hs.length:Int)):=by omega
 have hw1:IntKind.i64.wrap ((i:Int)+1)=(i:Int)+1:=by rw [IntKind.wrap_i64];omega
 have hw2:IntKind.i64.wrap ((hs.length:Int)+1)=(hs.length:Int)+1:=by rw [IntKind.wrap_i64];omega
 have hcc:¬((hs.length:Int)+1 > (c:Int)):=by omega
 have hin:i<=hs.length:=by omega
 have hin2:(i:Int)<=(hs.length:Int):=by omega
 have hb1:(0:Int)<=(i:Int)+1:=by omega
 have htn:((i:Int)+1).toNat=i+1:=by omega
 have hb2:¬(c=i+1):=by omega
 have hb3:(i:Int)<=(hs.length:Int)+1:=by omega
 have hb4:¬(c=i):=by omega
 have mixed:Tryz.prog.follows Departure.mixedOrders=true:=by kernel_rfl
 have hb5:(i:Int)+1<=(hs.length:Int)+1:=by omega
 go_enter Tryz.func241,Tryz.ntmps241
 go_wp2_with (simp only [hov])
 go_region_law_o (refine step_copy_runI rfl _ _ 27 27 rfl _ _ (by simp [Act.eval,Act.put]) (by simp [Act.eval,Act.put]) (hcp1 _ _ _) ?_)
 go_wp2_with fail
 go_ret
 exact⟨rfl,HEND.out.1,HEND.out.2⟩
theorem Zj2(base g c i vb:Nat)(hs:List Value)(h:Value)(w:World)(ho:∀v∈hs,v.oneCell'=true)(hho:h.oneCell'=true)(hr:Zbf base w g c hs)(hv:One w vb h 2)(hi:i<hs.length)(hroom:c<hs.length+1)(hn:hs.length<=1048576)(hbw:base<=w.heap.size):
 Calls Tryz.prog 241 #[.slice (some ⟨g,0,none⟩) hs.length c,.int .i64 i,.slice (some ⟨vb,0,none⟩) 1 1] w fun e w'=>∃G,e=.returned (.slice (some ⟨w.heap.size,0,none⟩) (hs.length+1) G)/\Zbf base w' w.heap.size G (hs.take i++h::hs.drop i)/\Below w.heap.size w w':=by
 obtain⟨S,hgS,hSl,hbg,hnc,hcm⟩:=Zey hr
 obtain⟨j0,hj0,hy0,hy1,hy2⟩:=info_parts Zhn
 have hsz2:(Tryz.prog.info? 2).map (·.size)=some 1:=by kernel_rfl
 have hgw:g<w.heap.size:=hr.lt.2
 have hvw:vb<w.heap.size:=hv.lt
 have hsg:Seg2 w g hs:=fun j v hj=>by
  have hjl:j<hs.length:=by
   rcases Nat.lt_or_ge j hs.length with h1 | h1
   · exact h1
   · rw [List.getElem?_eq_none h1] at hj;cases hj
  simp only [World.cell?,hgS]
  simp [List.getElem?_append_left hjl,hj]
 have hAl:(hs.take i).length=i:=by simp;omega
 have hBl:(hs.drop i).length=hs.length-i:=by simp
 have hld:(loadCells ⟨g,0,none⟩ i).run Tryz.prog w.drew=.ok (hs.take i).toArray w.drew:=by
  have h1:=run_loadCells_list (P:=Tryz.prog) w.drew ⟨g,0,none⟩ (hs.take i) (fun j v hj=>by
   rw [Addr.add_lit,Nat.zero_add]
   refine hsg j v ?_
   have hjl:j<(hs.take i).length:=by
    rcases Nat.lt_or_ge j (hs.take i).length with h1 | h1
    · exact h1
    · rw [List.getElem?_eq_none h1] at hj;cases hj
   have e:hs=hs.take i++hs.drop i:=by rw [List.take_append_drop]
   rw [e,List.getElem?_append_left hjl];exact hj)
  rwa [hAl] at h1
 have hold:(Builtin.firstCells j0.size i (.slice (some ⟨g,0,none⟩) i c)).run Tryz.prog w.drew=.ok (hs.take i).toArray w.drew:=by
  rw [hy1]
  simp [Builtin.firstCells,hld]
 have hrz:=fun ty=>Lib.run_append_grow_zeros (P:=Tryz.prog) w 27 3 ty 2 j0 _ .i64 .i64 Tryz.underlying27 Tryz.underlying3 hj0 hy0 (some ⟨g,0,none⟩) i c (hs.take i) hold (hs.length+1-i) (by omega) (by omega) (by omega) (by omega) (by rw [hy2];omega) (growslice_fits (by omega) (by rw [hy2];omega))
 rw [show i+(hs.length+1-i)=hs.length+1 by omega,show ((hs.length+1-i:Nat):Int)=(hs.length:Int)+1-(i:Int) by omega] at hrz
 have hG1:=grownCap_ge w (hs.length+1) c 2
 have hG2:=grownCap_le_maxLen w (hs.length+1) c 2 (by unfold maxLen;omega)
 obtain⟨G,hG⟩:∃G,G=grownCap w (hs.length+1) c 2:=⟨_,rfl⟩
 rw [<-hG] at hrz hG1 hG2
 obtain⟨Z,hZ⟩:∃Z,Z=(Builtin.zeroCells (Value.int .i64 0).cells (hs.length+1-i)).toList++(Builtin.zeroCells (Value.int .i64 0).cells (G-(hs.length+1))).toList:=⟨_,rfl⟩
 have hZl:Z.length=G-i:=by
  have e:∀m,(Builtin.zeroCells (Value.int .i64 0).cells m).toList.length=m:=fun m=>by simp [Builtin.zeroCells,Value.cells]
  rw [hZ,List.length_append,e,e]
  omega
 have ecells:(hs.take i).toArray++Builtin.zeroCells (Value.int .i64 0).cells (hs.length+1-i)++Builtin.zeroCells (Value.int .i64 0).cells (G-(hs.length+1))=(hs.take i++Z).toArray:=by
  apply Array.ext'
  rw [hZ]
  simp
 rw [ecells] at hrz
 obtain⟨W1,hW1⟩:∃W1,W1=w.drew.alloc (.cells (hs.take i++Z).toArray 2):=⟨_,rfl⟩
 rw [<-hW1] at hrz
 have hBW:Below w.heap.size w W1:=by rw [hW1];exact ((Below.refl w.heap.size w).drew).alloc (Nat.le_refl _) _
 have hg1:W1.heap[w.heap.size]? =some (.cells (hs.take i++Z).toArray 2 (0,0)):=by rw [hW1];exact heap_alloc_new w.drew _
 have hv1:One W1 vb h 2:=(hBW.block vb hvw).trans hv
 have hsg1:Seg2 W1 g hs:=fun j v hj=>(hBW.cell (p:=⟨g,j,none⟩) hgw).trans (hsg j v hj)
 obtain⟨C1,hC1⟩:∃C1,C1=splice (hs.take i++Z) i [h]:=⟨_,rfl⟩
 have hC1l:C1.length=(hs.take i++Z).length:=by rw [hC1];exact length_splice _ _ _ (by rw [List.length_append,hAl,hZl];simp;omega)
 obtain⟨C2,hC2⟩:∃C2,C2=splice C1 (i+1) (hs.drop i):=⟨_,rfl⟩
 have eC2:C2=(hs.take i++h::hs.drop i)++Z.drop (1+(hs.drop i).length):=by
  have h1:=Zhm (A:=hs.take i) (B:=hs.drop i) (Z:=Z) (X:=[h]) rfl
  rw [hAl] at h1
  rw [hC2,hC1,h1]
  simp
 have hmin1:Nat.min 1 (hs.length+1-i)=1:=by simp only [Nat.min_def];split <;> omega
 have hcp1:∀ty dc,(Builtin.copy_ #[27,27] ty #[.slice (some ⟨w.heap.size,i,none⟩) (hs.length+1-i) dc,.slice (some ⟨vb,0,none⟩) 1 1]).run Tryz.prog W1=.ok (goInt (Nat.min 1 (hs.length+1-i))) (W1.setRow w.heap.size C1.toArray):=fun ty dc=>by
  rw [hC1]
  exact ZbE W1 _ _ ty 2 w.heap.size i (hs.length+1-i) dc ⟨vb,0,none⟩ 1 1 1 (hs.take i++Z) 2 [h] Tryz.underlying27 hsz2 hg1 (by rw [hmin1];rfl) (by rw [List.length_append,hAl,hZl];simp;omega)
   (fun j v hj=>by
     rw [Addr.add_lit]
     match j,hj with
     | 0,hj=>simp at hj;rw [<-hj];exact hv1.c0
     | j+1,hj=>simp at hj) (by intro v hv;simp at hv;rw [hv];exact hho)
 obtain⟨W2,hW2⟩:∃W2,W2=W1.setRow w.heap.size C1.toArray:=⟨_,rfl⟩
 have hg2:W2.heap[w.heap.size]? =some (.cells C1.toArray 2 (0,0)):=by rw [hW2];exact setRow_heap W1 w.heap.size _ _ 2 _ hg1
 have hB2:Below w.heap.size w W2:=by rw [hW2];exact below_setRow hBW (Nat.le_refl _) _
 have hcp2:∀ty dc sc,(Builtin.copy_ #[27,27] ty #[.slice (some ⟨w.heap.size,i+1,none⟩) (hs.length-i) dc,.slice (some ⟨g,i,none⟩) (hs.length-i) sc]).run Tryz.prog W2.drew=.ok (goInt (Nat.min (hs.length-i) (hs.length-i))) (W2.drew.setRow w.heap.size C2.toArray):=fun ty dc sc=>by
  rw [hC2]
  exact ZbE W2.drew _ _ ty 2 w.heap.size (i+1) (hs.length-i) dc ⟨g,i,none⟩ (hs.length-i) sc 1 C1 2 (hs.drop i) Tryz.underlying27 hsz2 hg2 (by rw [hBl,Nat.mul_one];simp only [Nat.min_def];split <;> omega) (by rw [hC1l,List.length_append,hAl,hZl,hBl];omega)
   (fun j v hj=>by
     rw [List.getElem?_drop] at hj
     rw [Addr.add_lit]
     exact (hB2.cell (p:=⟨g,i+j,none⟩) hgw).trans (hsg (i+j) v hj)) (fun v hv=>ho v (List.mem_of_mem_drop hv))
 rw [<-hW2] at hcp1
 have HEND:Hid (Zbf base (W2.drew.setRow w.heap.size C2.toArray) w.heap.size G (hs.take i++h::hs.drop i)/\Below w.heap.size w (W2.drew.setRow w.heap.size C2.toArray)):=by
  refine⟨Zho (S:=Z.drop (1+(hs.drop i).length)) ?_ ?_ hbw ?_ hG2,below_setRow hB2.drew (Nat.le_refl _) _⟩
  · rw [<-eC2];exact setRow_heap W2.drew w.heap.size _ _ 2 _ hg2
  · rw [List.length_drop,hBl,hZl];simp;omega
  · simp;omega
 have hcc:(hs.length:Int)+1 > (c:Int):=by omega
 have hz2:¬((i:Int)=(hs.length:Int)):=by omega
 have hw1:IntKind.i64.wrap ((i:Int)+1)=(i:Int)+1:=by rw [IntKind.wrap_i64];omega
 have hw2:IntKind.i64.wrap ((hs.length:Int)+1)=(hs.length:Int)+1:=by rw [IntKind.wrap_i64];omega
 have hw3:IntKind.i64.wrap ((hs.length:Int)+1-(i:Int))=(hs.length:Int)+1-(i:Int):=by rw [IntKind.wrap_i64];omega
 have hin:i<=hs.length:=by omega
 have hin2:(i:Int)<=(hs.length:Int):=by omega
 have hic:(i:Int)<=(c:Int):=by omega
 have hb1:(0:Int)<=(i:Int)+1:=by omega
 have htn:((i:Int)+1).toNat=i+1:=by omega
 have hb2:¬(G=i+1):=by omega
 have hb3:(i:Int)<=(hs.length:Int)+1:=by omega
 have hb4:¬(G=i):=by omega
 have hb6:¬(c=i):=by omega
 have hb5:(i:Int)+1<=(hs.length:Int)+1:=by omega
 have mixed:Tryz.prog.follows Departure.mixedOrders=true:=by kernel_rfl
 clear hsg hsg1 hv1 hg1 hg2 eC2 hC1l hC1 hC2 hAl hBl hW1 hW2 hB2 hBW hold hld hG hZ hZl ecells hr hgS hSl ho hho
 go_enter Tryz.func241,Tryz.ntmps241
 go_wp2_with (at_builtin;refine Lib.wpList_append_run _ rfl _ _ _ _ rfl _ _ rfl rfl _ _ (hrz _) ?_)
 go_region_law_o (refine step_copy_runI rfl _ _ 27 27 rfl _ _ (by simp [Act.eval,Act.put]) (by simp [Act.eval,Act.put]) (hcp2 _ _ _) ?_)
 go_wp2_with fail
 go_ret
 exact⟨G,rfl,HEND.out.1,HEND.out.2⟩
theorem Zbf.of{base:Nat}{w:World}{g c n:Nat}{vs xs:List Value}(h:w.ownsRow base 2 1 (.slice (some ⟨g,0,none⟩) n c) n xs)(hn:n=vs.length)(hx:xs=vs):Zbf base w g c vs:=by
 subst hn hx;exact h
theorem Zlo(base c vb:Nat)(a:Option Addr)(hs:List Value)(h:Value)(w:World)(hho:h.oneCell'=true)(hr:w.ownsRow base 2 1 (.slice a hs.length c) hs.length hs)(hv:One w vb h 2)(hn:hs.length<=1048576)(hbw:base<=w.heap.size):
 Calls Tryz.prog 241 #[.slice a hs.length c,.int .i64 hs.length,.slice (some ⟨vb,0,none⟩) 1 1] w fun e w'=>∃g G,e=.returned (.slice (some ⟨g,0,none⟩) (hs.length+1) G)/\Zbf base w' g G (hs++[h])/\w.grownBy w' (Value.slice a hs.length c).ownBlock/\((Value.slice a hs.length c).ownBlock=some g\/g=w.heap.size):=by
 obtain⟨j0,hj0,hy0,hy1,hy2⟩:=info_parts Zhn
 have HR:=Za hr
 have HV:=Za hv
 have hin:(hs.length:Int)<=(hs.length:Int):=Int.le_refl _
 obtain⟨hx1,h2⟩:=hr
 clear hx1
 rcases h2 with ⟨e,e2⟩ | ⟨g',cp,cur,e,hb,hg,hnc,hcm,hsz,htk⟩
 · injection e with e1 e3 e4
   subst e1 e4
   have hs0:hs=[]:=List.length_eq_zero_iff.1 e3
   subst hs0
   simp only [List.length_nil] at *
   go_enter Tryz.func241,Tryz.ntmps241
   go_wp2_with (at_builtin;refine wpList_append_lies _ rfl (.tmp 23) (.tmp 24) 27 rfl base 2 j0 _ 1 8 Tryz.underlying27 hj0 hy0 hy1 hy2 rfl (by omega) (.slice none 0 0) 0 [] rfl HR.out ⟨vb,0,none⟩ 1 1 [h] rfl rfl (World.news_of_block (cs:=#[h]) (t:=2) (fr:=(0,0)) HV.out) (by intro v hv;simp at hv;rw [hv];exact hho) (by omega) (by unfold maxLen;omega) (by omega) hbw w.heap.size rfl ?_;intro gg cc w8 hown hgrow hat8 hlt8)
   go_ret
   exact⟨gg,cc,rfl,Zbf.of hown rfl rfl,hgrow,hat8⟩
 · injection e with e1 e3 e4
   subst e1 e4
   clear htk hsz hg e3
   by_cases hcn:c=hs.length
   · rw [hcn] at HR ⊢
     go_enter Tryz.func241,Tryz.ntmps241
     go_wp2_with (at_builtin;refine wpList_append_lies _ rfl (.tmp 23) (.tmp 24) 27 rfl base 2 j0 _ 1 8 Tryz.underlying27 hj0 hy0 hy1 hy2 rfl (by omega) (.slice (some ⟨g',0,none⟩) hs.length hs.length) hs.length hs rfl HR.out ⟨vb,0,none⟩ 1 1 [h] rfl rfl (World.news_of_block (cs:=#[h]) (t:=2) (fr:=(0,0)) HV.out) (by intro v hv;simp at hv;rw [hv];exact hho) (by omega) (by unfold maxLen;omega) (by omega) hbw w.heap.size rfl ?_;intro gg cc w8 hown hgrow hat8 hlt8)
     go_ret
     exact⟨gg,cc,rfl,Zbf.of hown (by simp) rfl,hgrow,hat8⟩
   · have hb4:¬(c=hs.length):=hcn
     go_enter Tryz.func241,Tryz.ntmps241
     go_wp2_with (at_builtin;refine wpList_append_lies _ rfl (.tmp 23) (.tmp 24) 27 rfl base 2 j0 _ 1 8 Tryz.underlying27 hj0 hy0 hy1 hy2 rfl (by omega) (.slice (some ⟨g',0,none⟩) hs.length c) hs.length hs rfl HR.out ⟨vb,0,none⟩ 1 1 [h] rfl rfl (World.news_of_block (cs:=#[h]) (t:=2) (fr:=(0,0)) HV.out) (by intro v hv;simp at hv;rw [hv];exact hho) (by omega) (by unfold maxLen;omega) (by omega) hbw w.heap.size rfl ?_;intro gg cc w8 hown hgrow hat8 hlt8)
     go_ret
     exact⟨gg,cc,rfl,Zbf.of hown (by simp) rfl,hgrow,hat8⟩
theorem Zlp(base c i vb:Nat)(a:Option Addr)(hs:List Value)(h:Value)(w:World)(ho:∀v∈hs,v.oneCell'=true)(hho:h.oneCell'=true)(hr:w.ownsRow base 2 1 (.slice a hs.length c) hs.length hs)(hv:One w vb h 2)(hne:(Value.slice a hs.length c).ownBlock≠some vb)(hi:i<=hs.length)(hn:hs.length<=1048576)(hbw:base<=w.heap.size):
 Calls Tryz.prog 241 #[.slice a hs.length c,.int .i64 i,.slice (some ⟨vb,0,none⟩) 1 1] w fun e w'=>∃g G,e=.returned (.slice (some ⟨g,0,none⟩) (hs.length+1) G)/\Zbf base w' g G (hs.take i++h::hs.drop i)/\w.grownBy w' (Value.slice a hs.length c).ownBlock/\((Value.slice a hs.length c).ownBlock=some g\/g=w.heap.size):=by
 rcases Nat.lt_or_ge i hs.length with hlt | hge
 · obtain⟨g,rfl⟩:∃g,a=some ⟨g,0,none⟩:=by
    obtain⟨_,h2⟩:=hr
    rcases h2 with ⟨e,e2⟩ | ⟨g',cp,cur,e,_⟩
    · omega
    · injection e with e1;exact⟨g',e1⟩
   have hrow:Zbf base w g c hs:=hr
   have hvg:vb≠g:=fun e=>hne (by simp [Value.ownBlock,e])
   rcases Nat.lt_or_ge c (hs.length+1) with hc | hc
   · refine (Zj2 base g c i vb hs h w ho hho hrow hv hlt hc hn hbw).mono ?_
     rintro e w' ⟨G,rfl,h1,h2⟩
     exact⟨w.heap.size,G,rfl,h1,⟨h2.os,h2.tape,h2.output,h2.size,fun k hk _=>h2.block k hk⟩,Or.inr rfl⟩
   · refine (Ziu base g c i vb hs h w ho hho hrow hv hvg hlt hc hn).mono ?_
     rintro e w' ⟨rfl,h1,h2⟩
     exact⟨g,c,rfl,h1,h2,Or.inl rfl⟩
 · have hin:i=hs.length:=by omega
   subst hin
   refine (Zlo base c vb a hs h w hho hr hv hn hbw).mono ?_
   rintro e w' ⟨g,G,rfl,h1,h2,h3⟩
   refine⟨g,G,rfl,?_,h2,h3⟩
   rw [List.take_length,List.drop_length]
   exact h1
def ZcR(x:Int):List Int->Nat
 | []=>0
 | y::l=>if y<x then ZcR x l+1 else 0
theorem Zjp(x:Int)(l:List Int):ZcR x l<=l.length:=by
 induction l with
 | nil=>simp [ZcR]
 | cons y l ih=>simp only [ZcR];split <;> simp <;> omega
theorem Zlq(x:Int)(l:List Int)(i:Nat)(hi:i<ZcR x l):nth l i<x:=by
 induction l generalizing i with
 | nil=>simp [ZcR] at hi
 | cons y l ih=>
   simp only [ZcR] at hi
   by_cases hm:y<x
   · rw [if_pos hm] at hi
     match i with
     | 0=>simpa [nth] using hm
     | i+1=>simpa [nth] using ih i (by omega)
   · simp [hm] at hi
theorem Zj3{l:List Int}(h:l.Pairwise (fun a b=>a<b))(x:Int)(i:Nat)(hi:ZcR x l<=i)(hl:i<l.length):x<=nth l i:=by
 induction l generalizing i with
 | nil=>simp at hl
 | cons y l ih=>
   obtain⟨h1,h2⟩:=List.pairwise_cons.1 h
   simp only [ZcR] at hi
   by_cases hm:y<x
   · rw [if_pos hm] at hi
     match i with
     | 0=>omega
     | i+1=>simpa [nth] using ih h2 i (by omega) (by simpa using hl)
   · match i with
     | 0=>simpa [nth] using hm
     | i+1=>
       have hlt:i<l.length:=by simpa using hl
       have:=h1 l[i] (List.getElem_mem hlt)
       have e:nth (y::l) (i+1)=l[i]:=by simp [nth,List.getD,hlt]
       rw [e];omega
theorem Zlr{l:List Int}(x:Int)(hx:x ∉ l):Zaw l x=l.take (ZcR x l)++x::l.drop (ZcR x l):=by
 induction l with
 | nil=>rfl
 | cons y l ih=>
   have hy:y≠x:=fun e=>hx (by simp [e])
   have ih':=ih (fun h=>hx (List.mem_cons_of_mem _ h))
   simp only [Zaw,ZcR]
   by_cases hm:y<x
   · simp [hm,ih']
   · simp [hm,hy]
theorem ZnE(x:Int)(w:World):Calls Tryz.prog 274 #[.int .i64 x] w fun e w'=>e=.returned (.bool false)/\w'=w:=by
 have hx:(x !=x)=false:=by simp
 go_enter Tryz.func274,Tryz.ntmps274
 go_wp2
 go_ret
 exact⟨rfl,rfl⟩
theorem pNaNc(x:Int)(w:World):Calls Tryz.prog 292 #[.int .i64 x] w fun e w'=>e=.returned (.bool false)/\w'=w:=by
 have hx:(x !=x)=false:=by simp
 go_enter Tryz.func292,Tryz.ntmps292
 go_wp2
 go_ret
 exact⟨rfl,rfl⟩
theorem pLess(x y:Int)(w:World):Calls Tryz.prog 273 #[.int .i64 x,.int .i64 y] w fun e w'=>e=.returned (.bool (decide (x<y)))/\w'=w:=by
 go_enter Tryz.func273,Tryz.ntmps273
 go_wp2_with (go_at_call 292;refine (pNaNc _ _).mono ?_;rintro e w' ⟨rfl,rfl⟩)
 go_ret
 exact⟨rfl,rfl⟩
theorem iBsI(ao:Option Addr)(cap:Nat)(l:List Int)(x:Int)(w:World)(hv:Zs w ao l)(hs:l.Pairwise (fun a b=>a<b))(hn:l.length<=1048576):
 Calls Tryz.prog 240 #[.slice ao l.length cap,.int .i64 x] w fun e w'=>(∃b:Bool,e=.returned (.tuple #[.int .i64 (ZcR x l:Nat),.bool b]))/\Below w.heap.size w w':=by
 have HLO:=Za (Zlq x l)
 have HHI:=Za (Zj3 hs x)
 have hpl:=Zjp x l
 have HV:=Za hv
 clear hv hs
 generalize ZcR x l=p at *
 go_enter Tryz.func240,Tryz.ntmps240
 go_wp2_with fail
 go_loop [7,8] (fun i j=>∃u v:Nat,u<=p/\p<=v/\v<=l.length/\i=.int .i64 u/\j=.int .i64 v) (fun i j=>(intOf j).toNat-(intOf i).toNat)
 case atStart=>exact⟨0,l.length,Nat.zero_le _,hpl,Nat.le_refl _,rfl,rfl⟩
 case round=>
  obtain⟨u,v,hup,hpv,hv,rfl,rfl⟩:=hrel
  by_cases hlt:u<v
  · have hu1:IntKind.u64.wrap ((u:Int)+(v:Int))=(u:Int)+(v:Int):=by rw [IntKind.wrap_u64];omega
    obtain⟨m,hm⟩:∃m:Nat,m=(u+v) / 2:=⟨_,rfl⟩
    have hmi:((u:Int)+(v:Int)) / 2=(m:Int):=by omega
    have hm1:u<=m/\m<v:=by omega
    obtain⟨b,off,rfl,hb,hsg⟩:∃b off,ao=some ⟨b,off,none⟩/\b<w.heap.size/\Seg w b off l:=by
     rcases HV.out with h | h
     · rw [h] at hv;simp at hv;omega
     · exact h
    have hc:=hsg m (by omega)
    have hc2:w.cell? ⟨b,off+(u+v) / 2,none⟩=some (.int .i64 (nth l m)):=by rw [<-hm];exact hc
    have hm0:(0:Int)<=(m:Int):=Int.natCast_nonneg _
    have hml:(m:Int)<(l.length:Int):=by omega
    have HMI:=Za hmi
    have HM1:=Za hm1
    have HLE:=Za (pLess (nth l m) x w)
    have HR:Hid ((nth l m<x->m<p)/\(¬nth l m<x->p<=m)):=⟨fun h=>by
     rcases Nat.lt_or_ge m p with e | e
     · exact e
     · have:=HHI.out m e (by omega);omega,fun h=>by
     rcases Nat.lt_or_ge m p with e | e
     · exact absurd (HLO.out m e) h
     · exact e⟩
    clear hmi hm hm1 hsg
    generalize nth l m=y at *
    by_cases hyx:y<x
    · rw [decide_eq_true hyx] at HLE
      have hpm:=HR.out.1 hyx
      clear hyx
      go_wp2_with fail
      refine HLE.out.mono ?_
      rintro e w2 ⟨rfl,hw⟩
      subst w2
      go_wp2_with fail
      go_round
      case rel=>exact⟨m+1,v,by omega,hpv,hv,by have:=HMI.out;rw [this];go_num,rfl⟩
      case measure=>have:=HM1.out;simp [intOf];omega
    · rw [decide_eq_false hyx] at HLE
      have hpm:=HR.out.2 hyx
      clear hyx
      go_wp2_with fail
      refine HLE.out.mono ?_
      rintro e w2 ⟨rfl,hw⟩
      subst w2
      go_wp2_with fail
      go_round
      case rel=>exact⟨u,m,hup,hpm,by have:=HM1.out;omega,rfl,by rw [HMI.out]⟩
      case measure=>have:=HM1.out;simp [intOf];omega
  · obtain rfl:u=p:=by omega
    by_cases hp:u<l.length
    · obtain⟨b,off,rfl,hb,hsg⟩:∃b off,ao=some ⟨b,off,none⟩/\b<w.heap.size/\Seg w b off l:=by
       rcases HV.out with h | h
       · rw [h] at hp;simp at hp
       · exact h
      have hc:=hsg u hp
      have hul:(u:Int)<(l.length:Int):=by omega
      have hu0:(0:Int)<=(u:Int):=Int.natCast_nonneg _
      by_cases hyx:nth l u=x
      · have hyb:(nth l u ==x)=true:=by simp [hyx]
        clear hyx
        generalize nth l u=y at *
        go_wp2_with (go_at_call 274;refine (ZnE _ _).mono ?_;rintro e w' ⟨rfl,rfl⟩)
        go_ret2
        exact⟨by first | exact⟨_,rfl⟩ | exact Or.inl rfl | exact Or.inr rfl | simp,Below.refl _ _⟩
      · have hyb:(nth l u ==x)=false:=by simp [hyx]
        clear hyx
        generalize nth l u=y at *
        go_wp2_with (go_at_call 274;refine (ZnE _ _).mono ?_;rintro e w' ⟨rfl,rfl⟩)
        go_ret2
        exact⟨by first | exact⟨_,rfl⟩ | exact Or.inl rfl | exact Or.inr rfl | simp,Below.refl _ _⟩
    · have hul:¬((u:Int)<(l.length:Int)):=by omega
      go_wp2_with fail
      go_ret2
      exact⟨by first | exact⟨_,rfl⟩ | exact Or.inl rfl | exact Or.inr rfl | simp,Below.refl _ _⟩
end Go.Proofs.YtaaagmgglolibaaGreat
