import Derived.Test.YtilkaeclgmcolaaGreatMCellsZz
import Derived.Deep.AppendLies
import Derived.Deep.AppendSrc
import Derived.Below
import Derived.Test.YtilkaeclgmcolaaGreatMCopyZz
import Derived.Test.YtilkaeclgmcolaaGreatMSizeZz
import Derived.Deep.RegionHeld3
import Derived.Test.YtilkaeclgmcolaaGreatMHighZz
set_option maxHeartbeats 1000000
namespace Go.Proofs.YtilkaeclgmcolaaGreat
open Go Go.RowKit
def ZX(w:World)(size:Nat)(ao:Option Addr)(m:Nat)(news:List Value):Prop:=
 news.length=m*size/\(∀u∈news,u.oneCell'=true)/\(m=0\/∃ad,ao=some ad/\∀j u,news[j]? =some u->w.cell? (ad.add j)=some u)
theorem Zdw{P:Program}(w:World)(t ty:TypeId)(base:Nat)(e:TypeId)(i:TypeInfo)(z:Value)(size bytes:Nat)(ht:P.underlying t=some (.slice e))(hi:P.info? e=some i)(hz:i.zero=some z)
 (hsize:i.size=size) (hby:i.bytes=bytes) (hzs:z.cells.size=size) (hsz:0<size)
 (g0 n c0:Nat) (xs:List Value) (hown:w.ownsRow base e size (.slice (some ⟨g0,0,none⟩) n c0) n xs)
 (ao:Option Addr) (m c:Nat) (news:List Value) (hs:ZX w size ao m news)
 (h63:n+m<=maxLen) (hbytes:(n+m)*bytes<=140737488355328) (hbase:base<=w.heap.size) (H:Nat) (hH:w.heap.size=H):
 ∃g cap w',(Builtin.append_ #[t,t] ty #[.slice (some ⟨g0,0,none⟩) n c0,.slice ao m c]).run P w=.ok (.slice (some ⟨g,0,none⟩) (n+m) cap) w'/\
  w'.ownsRow base e size (.slice (some ⟨g,0,none⟩) (n+m) cap) (n+m) (xs++news)/\w.grownBy w' (some g0)/\(g0=g\/g=H)/\g<w'.heap.size:=by
 obtain⟨q,f,s⟩:=hs
 rcases Nat.eq_zero_or_pos m with h0 | h0
 · subst h0
   obtain rfl:news=[]:=List.eq_nil_of_length_eq_zero (by simpa using q)
   have d:n+0<=c0:=by
    obtain⟨_,⟨f,_⟩ | ⟨C,B,v,f,_,_,r,_⟩⟩:=hown
    · cases f
    · injection f with e1 e2 e3;omega
   have k:Src P i.size t (.slice ao 0 c) 0 [] w:=by
    cases ao with
    | none=>exact Src.ofNil w ht c
    | some b=>exact Src.ofSlice w ht b 0 c [] (by simp) (fun j u p=>by simp at p) (fun u p=>by cases p)
   have o:=run_append_room_src (P:=P) w t t ty e i ht hi g0 0 n c0 (.slice ao 0 c) 0 [] k d (fun j l=>by simp at l) (fun j l=>by simp at l)
   refine⟨g0,c0,w,?_,by simpa using hown,⟨rfl,rfl,rfl,Nat.le_refl _,fun _ _ _=>rfl⟩,.inl rfl,(hown.lt g0 rfl).2⟩
   simpa [World.setCells] using o
 · obtain⟨b,rfl,a⟩:∃b,ao=some b/\∀j u,news[j]? =some u->w.cell? (b.add j)=some u:=by
    rcases s with h | h
    · omega
    · exact h
   obtain⟨g,cap,w',o,r,y,x,A⟩:=run_append_lies (P:=P) w t ty base e i z size bytes ht hi hz hsize hby hzs hsz _ n xs hown b m c news q a f h0 h63 hbytes hbase H hH
   refine⟨g,cap,w',o,r,y,?_,A⟩
   rcases x with h | h
   · left;simpa [Value.ownBlock] using h
   · exact .inr h
theorem Zw{P:Program}(w:World){ops:Array Oper}{rest:List Oper}{o:Oper}{a:Act}{Q:Exit->Act->World->Prop}(hgd:o.guard=none)(s x:Operand)(t:TypeId)
 (ho:o.op=.call { callee:=.builtin .append,args:=#[s,x],argTypes:=#[t,t] })
 (base:Nat) (e:TypeId) (i:TypeInfo) (z:Value) (size bytes:Nat) (ht:P.underlying t=some (.slice e)) (hi:P.info? e=some i) (hz:i.zero=some z)
 (hsize:i.size=size) (hby:i.bytes=bytes) (hzs:z.cells.size=size) (hsz:0<size)
 (g0 n c0:Nat) (xs:List Value) (hs:a.eval s=.slice (some ⟨g0,0,none⟩) n c0) (hown:w.ownsRow base e size (.slice (some ⟨g0,0,none⟩) n c0) n xs)
 (ao:Option Addr) (m c:Nat) (news:List Value) (hx:a.eval x=.slice ao m c) (hsrc:ZX w size ao m news)
 (h63:n+m<=maxLen) (hbytes:(n+m)*bytes<=140737488355328) (hbase:base<=w.heap.size) (H:Nat) (hH:w.heap.size=H)
 (h:∀g cap w',w'.ownsRow base e size (.slice (some ⟨g,0,none⟩) (n+m) cap) (n+m) (xs++news)->w.grownBy w' (some g0)->(g0=g\/g=H)->g<w'.heap.size->wpList P ops Q rest (a.put o.dst (.slice (some ⟨g,0,none⟩) (n+m) cap)) w'):wpList P ops Q (o::rest) a w:=by
 refine wpList_plain hgd fun _ d=>?_
 obtain⟨g,cap,w',b,f,k,j,l⟩:=Zdw (P:=P) w t o.type base e i z size bytes ht hi hz hsize hby hzs hsz g0 n c0 xs hown ao m c news hsrc h63 hbytes hbase H hH
 unfold Oper.wp execOp
 simp only [ho,resolve,invoke,builtin,Sem.run_bind,Sem.run_pure,Result.andThen_ok,List.map_toArray,List.map_cons,List.map_nil,hs,hx,b]
 exact d _ _ (h g cap w' f k j l)
theorem Zj{P:Program}(w:World){ops:Array Oper}{o:Oper}{a:Act}{K:Act->World->Prop}{Q:Exit->Act->World->Prop}{E:Prop}(hgd:o.guard=none)(s x:Operand)(t:TypeId)
 (ho:o.op=.call { callee:=.builtin .append,args:=#[s,x],argTypes:=#[t,t] })
 (base:Nat) (e:TypeId) (i:TypeInfo) (z:Value) (size bytes:Nat) (ht:P.underlying t=some (.slice e)) (hi:P.info? e=some i) (hz:i.zero=some z)
 (hsize:i.size=size) (hby:i.bytes=bytes) (hzs:z.cells.size=size) (hsz:0<size)
 (g0 n c0:Nat) (xs:List Value) (hs:a.eval s=.slice (some ⟨g0,0,none⟩) n c0) (hown:w.ownsRow base e size (.slice (some ⟨g0,0,none⟩) n c0) n xs)
 (ao:Option Addr) (m c:Nat) (news:List Value) (hx:a.eval x=.slice ao m c) (hsrc:ZX w size ao m news)
 (h63:n+m<=maxLen) (hbytes:(n+m)*bytes<=140737488355328) (hbase:base<=w.heap.size) (H:Nat) (hH:w.heap.size=H)
 (h:∀g cap w',w'.ownsRow base e size (.slice (some ⟨g,0,none⟩) (n+m) cap) (n+m) (xs++news)->w.grownBy w' (some g0)->(g0=g\/g=H)->g<w'.heap.size->K (a.put o.dst (.slice (some ⟨g,0,none⟩) (n+m) cap)) w'):
 if Region.wanted o (yielded ops a.tmps)=true then Oper.wp P o a w K Q else E:=by
 have d:Region.wanted o (yielded ops a.tmps)=true:=by simp [Region.wanted,hgd]
 rw [if_pos d]
 obtain⟨g,cap,w',b,f,k,j,l⟩:=Zdw (P:=P) w t o.type base e i z size bytes ht hi hz hsize hby hzs hsz g0 n c0 xs hown ao m c news hsrc h63 hbytes hbase H hH
 unfold Oper.wp execOp
 simp only [ho,resolve,invoke,builtin,Sem.run_bind,Sem.run_pure,Result.andThen_ok,List.map_toArray,List.map_cons,List.map_nil,hs,hx,b]
 exact h g cap w' f k j l
abbrev Zv:=Int×Int×Int
def Zr(ts:List Zv)(i:Nat):Zv:=ts.getD i (0,0,0)
def Zg:List Zv->List Value
 | []=>[]
 | t::ts=>.int .i64 t.1::.int .i64 t.2.1::.int .i64 t.2.2::Zg ts
def Zcb(w:World)(b off:Nat)(ts:List Zv):Prop:=∀i,i<ts.length->w.cell? ⟨b,off+i*3,none⟩=some (.int .i64 (Zr ts i).1)/\w.cell? ⟨b,off+i*3+1,none⟩=some (.int .i64 (Zr ts i).2.1)/\w.cell? ⟨b,off+i*3+2,none⟩=some (.int .i64 (Zr ts i).2.2)
def Zm(w:World)(ao:Option Addr)(ts:List Zv):Prop:=ts=[]\/∃b off,ao=some ⟨b,off,none⟩/\b<w.heap.size/\Zcb w b off ts
def Zq(base:Nat)(w:World)(g c:Nat)(ts:List Zv):Prop:=w.ownsRow base 87 3 (.slice (some ⟨g,0,none⟩) ts.length c) ts.length (Zg ts)
theorem ZM(ts:List Zv):(Zg ts).length=ts.length*3:=by
 induction ts with
 | nil=>rfl
 | cons d ds ih=>simp [Zg,ih];omega
theorem ZO(ds es:List Zv):Zg (ds++es)=Zg ds++Zg es:=by
 induction ds with
 | nil=>rfl
 | cons d ds ih=>simp [Zg,ih]
theorem ZeH(ds:List Zv)(i:Nat)(h:i<ds.length):(Zg ds)[i*3]? =some (.int .i64 (Zr ds i).1)/\(Zg ds)[i*3+1]? =some (.int .i64 (Zr ds i).2.1)/\(Zg ds)[i*3+2]? =some (.int .i64 (Zr ds i).2.2):=by
 induction ds generalizing i with
 | nil=>simp at h
 | cons d ds ih=>
   match i,h with
   | 0,_=>exact⟨rfl,rfl,rfl⟩
   | k+1,h=>
     have:=ih k (by simpa using h)
     rw [show (k+1)*3=k*3+1+1+1 by omega]
     exact this
theorem ZcG(ts:List Zv):∀u∈Zg ts,u.oneCell'=true:=by
 induction ts with
 | nil=>intro u a;cases a
 | cons d ds ih=>
   intro u a
   simp only [Zg,List.mem_cons] at a
   rcases a with rfl | rfl | rfl | a
   · rfl
   · rfl
   · rfl
   · exact ih u a
theorem ZiR{ts:List Zv}{i:Nat}(h:i<ts.length):Zr ts i=ts[i]:=by simp [Zr,List.getD,h]
theorem Zny{ts ks:List Zv}(hl:ts.length=ks.length)(h:∀i,i<ts.length->Zr ts i=Zr ks i):ts=ks:=by
 apply List.ext_getElem hl
 intro i a b
 have:=h i a
 simpa [Zr,List.getD,a,b] using this
theorem Zcb.below{w w':World}{B b off:Nat}{ts:List Zv}(h:Zcb w b off ts)(hb:b<B)(hw:Below B w w'):Zcb w' b off ts:=fun i hi=>
 ⟨(hw.cell (p:=⟨b,off+i*3,none⟩) hb).trans (h i hi).1,(hw.cell (p:=⟨b,off+i*3+1,none⟩) hb).trans (h i hi).2.1,(hw.cell (p:=⟨b,off+i*3+2,none⟩) hb).trans (h i hi).2.2⟩
theorem Zm.below{w w':World}{B:Nat}{ao:Option Addr}{ts:List Zv}(h:Zm w ao ts)(hB:w.heap.size<=B)(hw:Below B w w'):Zm w' ao ts:=by
 rcases h with h | ⟨b,off,e,hb,hs⟩
 · exact Or.inl h
 · exact Or.inr ⟨b,off,e,Nat.lt_of_lt_of_le hb hw.size,hs.below (Nat.lt_of_lt_of_le hb hB) hw⟩
theorem Zm.next{w w':World}{ao:Option Addr}{ts:List Zv}(h:Zm w ao ts)(hw:Below w.heap.size w w'):Zm w' ao ts:=h.below (Nat.le_refl _) hw
theorem Zm.seg{w:World}{ao:Option Addr}{ts:List Zv}(h:Zm w ao ts)(h0:0<ts.length):∃b off,ao=some ⟨b,off,none⟩/\b<w.heap.size/\Zcb w b off ts:=by
 rcases h with h | h
 · subst h;simp at h0
 · exact h
theorem Zcb.src{w:World}{b off:Nat}{ts:List Zv}(h:Zcb w b off ts)(j:Nat)(u:Value)(hu:(Zg ts)[j]? =some u):w.cell? ((⟨b,off,none⟩:Addr).add j)=some u:=by
 have i:j<ts.length*3:=by
  rcases Nat.lt_or_ge j (ts.length*3) with h1 | h1
  · exact h1
  · rw [List.getElem?_eq_none (by rw [ZM];exact h1)] at hu;cases hu
 rw [Go.WideShapes.add_plain]
 have f:j / 3<ts.length:=by omega
 have c:=ZeH ts (j / 3) f
 have d:=h (j / 3) f
 have g:j % 3=0\/j % 3=1\/j % 3=2:=by omega
 rcases g with e | e | e
 · have a:j=j / 3*3:=by omega
   rw [a] at hu ⊢
   rw [d.1];rw [c.1] at hu;exact hu
 · have a:j=j / 3*3+1:=by omega
   rw [a] at hu ⊢
   rw [<-Nat.add_assoc,d.2.1];rw [c.2.1] at hu;exact hu
 · have a:j=j / 3*3+2:=by omega
   rw [a] at hu ⊢
   rw [<-Nat.add_assoc,d.2.2];rw [c.2.2] at hu;exact hu
theorem Zm.src{w:World}{ao:Option Addr}{ts:List Zv}(h:Zm w ao ts):ZX w 3 ao ts.length (Zg ts):=by
 refine⟨ZM ts,ZcG ts,?_⟩
 rcases h with h | ⟨b,off,rfl,_,hs⟩
 · subst h;exact Or.inl rfl
 · exact Or.inr ⟨_,rfl,hs.src⟩
theorem Zq.lt{base:Nat}{w:World}{g c:Nat}{ts:List Zv}(h:Zq base w g c ts):base<=g/\g<w.heap.size:=World.ownsRow.lt h g rfl
theorem Zq.seg{base:Nat}{w:World}{g c:Nat}{ts:List Zv}(h:Zq base w g c ts):Zcb w g 0 ts:=fun i hi=>by
 have:=ZeH ts i hi
 rw [Nat.zero_add,World.ownsRow.cellAt h _ (by omega),World.ownsRow.cellAt h _ (by omega),World.ownsRow.cellAt h _ (by omega)]
 exact this
theorem Zq.view{base:Nat}{w:World}{g c:Nat}{ts:List Zv}(h:Zq base w g c ts):Zm w (some ⟨g,0,none⟩) ts:=Or.inr ⟨g,0,rfl,h.lt.2,h.seg⟩
theorem Zq.cap{base:Nat}{w:World}{g c:Nat}{ts:List Zv}(h:Zq base w g c ts):ts.length<=c:=by
 obtain⟨_,⟨a,_⟩ | ⟨e,d,b,a,_,_,f,_⟩⟩:=h
 · cases a
 · injection a with e1 e2 e3
   omega
theorem Zq.mono{base base':Nat}{w:World}{g c:Nat}{ts:List Zv}(h:Zq base w g c ts)(hb:base'<=base):Zq base' w g c ts:=
 ⟨h.1,h.2.imp id fun ⟨g,cap,cur,h1,h2,h3⟩=>⟨g,cap,cur,h1,Nat.le_trans hb h2,h3⟩⟩
theorem Zq.below{base B:Nat}{w w':World}{g c:Nat}{ts:List Zv}(h:Zq base w g c ts)(hB:w.heap.size<=B)(hw:Below B w w'):Zq base w' g c ts:=
 World.ownsRow.kept h (row:=none) ⟨hw.os,hw.tape,hw.output,hw.size,fun i hi _=>hw.block i (Nat.lt_of_lt_of_le hi hB)⟩ (Or.inr (by simp [Value.ownBlock]))
theorem Zq.start(w:World)(base:Nat)(hb:base<=w.heap.size):Zq base (w.alloc (.cells #[] 87)) w.heap.size 0 []:=World.ownsRow_lit w #[] 0 hb (Nat.zero_le _) rfl
theorem Zq.of{base:Nat}{w:World}{g c n:Nat}{ts:List Zv}{xs:List Value}(h:w.ownsRow base 87 3 (.slice (some ⟨g,0,none⟩) n c) n xs)(hn:n=ts.length)(hx:xs=Zg ts):Zq base w g c ts:=by
 subst hn hx;exact h
def ZdW(ss:List Zv)(i:Nat):Bool:=inR (Zr ss i).1 0 7 && (inR (Zr ss i).2.1 1 1000000 && (inR (Zr ss i).2.2 (-1) 1000000 && (decide (i=0) || decide ((Zr ss (i-1)).1<(Zr ss i).1))))
def ssB(ss:List Zv):Bool:=decide (ss.length<=8) && (List.range ss.length).all (ZdW ss)
theorem ZbF(ss:List Zv):ssB ss=true↔ss.length<=8/\∀i,i<ss.length->ZdW ss i=true:=by simp [ssB]
theorem ZjZ{ss:List Zv}{i:Nat}(h:i<ss.length)(e:ZdW ss i=false):ssB ss=false:=by
 rcases hb:ssB ss with _ | _
 · rfl
 · have:=((ZbF ss).1 hb).2 i h
   rw [e] at this;cases this
theorem ZlF{ss:List Zv}(h:8<ss.length):ssB ss=false:=by
 rcases hb:ssB ss with _ | _
 · rfl
 · have:=((ZbF ss).1 hb).1
   omega
def clL(ss:List Zv):List Int:=ss.map (·.1)
theorem Zdi(ss:List Zv):(clL ss).length=ss.length:=by simp [clL]
theorem ZgS{ss:List Zv}{i:Nat}(h:i<ss.length):nth (clL ss) i=(Zr ss i).1:=by simp [nth,clL,Zr,List.getD,h]
def Zcs(l:List Int)(k:Nat):Int:=if k=0 then 0 else nth l (k-1)+1
def upC(l:List Int):Bool:=(List.range l.length).all (fun k=>decide (Zcs l k<=nth l k) && decide (nth l k<=7))
theorem Ze2(l:List Int):upC l=true↔∀k,k<l.length->Zcs l k<=nth l k/\nth l k<=7:=by simp [upC]
theorem ZlG{l:List Int}{k:Nat}(h:k<l.length)(e:nth l k<Zcs l k\/7<nth l k):upC l=false:=by
 rcases hb:upC l with _ | _
 · rfl
 · have:=(Ze2 l).1 hb k h
   omega
theorem ZgT{l:List Int}{k:Nat}(h:∀j,j<k->Zcs l j<=nth l j/\nth l j<=7):0<=Zcs l k/\Zcs l k<=8:=by
 induction k with
 | zero=>simp [Zcs]
 | succ k ih=>
   have a:=ih (fun j b=>h j (by omega))
   have c:=h k (by omega)
   have e:Zcs l (k+1)=nth l k+1:=by simp [Zcs]
   rw [e]
   omega
theorem Znz{l:List Int}{k:Nat}(h:∀j,j<k->Zcs l j<=nth l j/\nth l j<=7):(k:Int)<=Zcs l k:=by
 induction k with
 | zero=>simp [Zcs]
 | succ k ih=>
   have a:=ih (fun j b=>h j (by omega))
   have c:=h k (by omega)
   have e:Zcs l (k+1)=nth l k+1:=by simp [Zcs]
   rw [e]
   omega
def ZiS(ss:List Zv)(i:Nat):Bool:=inR (Zr ss i).2.1 1 1000000 && inR (Zr ss i).2.2 (-1) 1000000
theorem ZnA{ss:List Zv}(h:∀i,i<ss.length->ZiS ss i=true):upC (clL ss)=ssB ss:=by
 have s:∀{x n b:Int},inR x n b=true↔n<=x/\x<=b:=fun {x n b}=>⟨fun h=>ZlH h,fun h=>Zcc h.1 h.2⟩
 rcases h1:upC (clL ss) with _ | _
 · rcases h2:ssB ss with _ | _
   · rfl
   · exfalso
     obtain⟨-,c⟩:=(ZbF ss).1 h2
     have:upC (clL ss)=true:=(Ze2 _).2 (fun k q=>by
      rw [Zdi] at q
      have f:=c k q
      simp only [ZdW,Bool.and_eq_true,Bool.or_eq_true,decide_eq_true_eq] at f
      obtain⟨a,-,-,d⟩:=f
      have r:=s.1 a
      rw [ZgS q]
      refine⟨?_,r.2⟩
      unfold Zcs
      rcases d with rfl | d
      · rw [if_pos rfl];exact r.1
      · by_cases e:k=0
        · rw [if_pos e];exact r.1
        · rw [if_neg e,ZgS (by omega)];omega)
     rw [h1] at this;cases this
 · symm
   have g:=(Ze2 _).1 h1
   rw [Zdi] at g
   refine (ZbF ss).2 ⟨?_,fun i b=>?_⟩
   · have o:=Znz (l:=clL ss) (k:=ss.length) (fun j m=>g j m)
     have t:=(ZgT (l:=clL ss) (k:=ss.length) (fun j m=>g j m)).2
     omega
   · have o:=g i b
     have t:=ZgT (l:=clL ss) (k:=i) (fun j m=>g j (by omega))
     have p:=h i b
     simp only [ZiS,Bool.and_eq_true] at p
     simp only [ZdW,Bool.and_eq_true,Bool.or_eq_true,decide_eq_true_eq]
     rw [ZgS b] at o
     refine⟨Zcc (by omega) o.2,p.1,p.2,?_⟩
     by_cases e:i=0
     · exact Or.inl e
     · have u:Zcs (clL ss) i=(Zr ss (i-1)).1+1:=by unfold Zcs;rw [if_neg e,ZgS (by omega)]
       exact Or.inr (by omega)
theorem ZiT{ss:List Zv}{i:Nat}(hi:i<ss.length)(h:ZiS ss i=false):ssB ss=false:=by
 refine ZjZ hi ?_
 rcases e:ZdW ss i with _ | _
 · rfl
 · simp only [ZdW,Bool.and_eq_true] at e
   simp only [ZiS,e.2.1,e.2.2.1] at h
   cases h
theorem ZoQ(ao:Option Addr)(n cap:Nat)(left:Int)(w:World)(hn:n<=maxLen)(h0:0<=left)(h1:left<=1048576):
 Calls Tryz.prog 41 #[.slice ao n cap,.int .i64 left] w fun e w'=>e=.returned (.int .i64 (Zbu left n))/\w'=w:=by
 unfold maxLen at hn
 by_cases h:left<n
 · have a:Zbu left n= -1:=by unfold Zbu;rw [if_pos h]
   have c:left-n<0:=by omega
   go_enter Tryz.func41,Tryz.ntmps41
   go_wp2
   go_ret
   exact⟨ZK a.symm,rfl⟩
 · have a:Zbu left n=left-n:=by unfold Zbu;rw [if_neg h]
   have b:=Za a
   clear a
   have c:¬left-n<0:=by omega
   go_enter Tryz.func41,Tryz.ntmps41
   go_wp2
   go_ret
   exact⟨ZK b.out.symm,rfl⟩
theorem ZgU(l:List Zv)(k:Nat)(x:Zv):(((Zg l).set (k*3) (.int .i64 x.1)).set (k*3+1) (.int .i64 x.2.1)).set (k*3+2) (.int .i64 x.2.2)=Zg (l.set k x):=by
 induction l generalizing k with
 | nil=>simp [Zg]
 | cons d ds ih=>
   cases k with
   | zero=>rfl
   | succ k=>
     rw [show (k+1)*3=k*3+1+1+1 by omega,show k*3+1+1+1+1=(k*3+1)+1+1+1 by omega,show k*3+1+1+1+2=(k*3+2)+1+1+1 by omega]
     simp only [Zg,List.set_cons_succ,ih]
theorem ZgV(n:Nat):Zg (List.replicate n (0,0,0))=List.replicate (n*3) (.int .i64 0):=by
 induction n with
 | zero=>rfl
 | succ n ih=>rw [show (n+1)*3=n*3+1+1+1 by omega];simp [List.replicate_succ,Zg,ih]
theorem Zq.store{base:Nat}{w:World}{g c:Nat}{l:List Zv}(h:Zq base w g c l)(k:Nat)(x:Zv):
 Zq base (((w.setCell ⟨g,k*3,none⟩ (.int .i64 x.1)).setCell ⟨g,k*3+1,none⟩ (.int .i64 x.2.1)).setCell ⟨g,k*3+2,none⟩ (.int .i64 x.2.2)) g c (l.set k x):=by
 have b:=(World.ownsRow.stored h (k*3) (.int .i64 x.1)).1
 have d:=(World.ownsRow.stored b (k*3+1) (.int .i64 x.2.1)).1
 have a:=(World.ownsRow.stored d (k*3+2) (.int .i64 x.2.2)).1
 rw [ZgU] at a
 unfold Zq
 rw [List.length_set]
 exact a
theorem Zge{ts:List Zv}{k:Nat}(h:k<ts.length):ts.take (k+1)=ts.take k++[Zr ts k]:=by rw [List.take_succ_eq_append_getElem h,ZiR h]
def ZbG(hs:List Zv)(k:Nat):List Zv:=hs.take k++List.replicate (hs.length-k) (0,0,0)
theorem Zfg(hs:List Zv)(k:Nat)(h:k<=hs.length):(ZbG hs k).length=hs.length:=by simp [ZbG];omega
theorem ZgW(hs:List Zv):ZbG hs 0=List.replicate hs.length (0,0,0):=by simp [ZbG]
theorem Zhu(hs:List Zv):ZbG hs hs.length=hs:=by simp [ZbG]
theorem Zhv(hs:List Zv)(k:Nat)(h:k<hs.length):(ZbG hs k).set k (Zr hs k)=ZbG hs (k+1):=by
 unfold ZbG
 rw [List.set_append_right _ _ (by simp;omega),Zge h,show (hs.take k).length=k by simp;omega,Nat.sub_self]
 rw [show hs.length-k=(hs.length-(k+1))+1 by omega,List.replicate_succ,List.set_cons_zero]
 simp
theorem Zhw(n:Nat):(madeCells #[.int .i64 0,.int .i64 0,.int .i64 0] (n*3)).toList=Zg (List.replicate n (0,0,0)):=by
 rw [ZgV]
 apply List.ext_getElem
 · simp [size_madeCells]
 · intro i b c
   have a:i % 3=0\/i % 3=1\/i % 3=2:=by omega
   rcases a with h | h | h <;> simp [madeCells,h]
theorem Zq.made(w:World)(n:Nat)(hn:n<=maxLen):Zq w.heap.size (w.alloc (.cells (madeCells #[.int .i64 0,.int .i64 0,.int .i64 0] (n*3)) 87)) w.heap.size n (List.replicate n (0,0,0)):=by
 have h:=World.ownsRow_lit (base:=w.heap.size) (e:=87) (size:=3) w (madeCells #[.int .i64 0,.int .i64 0,.int .i64 0] (n*3)) n (Nat.le_refl _) hn (size_madeCells _ _)
 rw [Zhw] at h
 exact Zq.of h (by simp) rfl
theorem toTS7(m:Zv)(w:World):
 Calls Tryz.prog 83 #[.agg #[.int .i64 m.1,.int .i64 m.2.1,.int .i64 m.2.2]] w fun e w'=>e=.returned (.agg #[.int .i64 m.1,.int .i64 m.2.1,.int .i64 m.2.2])/\Below w.heap.size w w':=by
 go_enter Tryz.func83,Tryz.ntmps83
 go_wp2_with fail
 refine bodyPost_ret (v:=.agg #[.int .i64 m.1,.int .i64 m.2.1,.int .i64 m.2.2]) (by simp [results,Tryz.results83,go_sem]) rfl ?_
 exact⟨rfl,(((Below.refl _ _).alloc (Nat.le_refl _) _).alloc (by simp) _).alloc (by simp;omega) _⟩
theorem ZiU(b off cap:Nat)(hs:List Zv)(w:World)(hseg:Zcb w b off hs)(hb:b<w.heap.size)(hn:hs.length<=1048576):
 Calls Tryz.prog 46 #[.slice (some ⟨b,off,none⟩) hs.length cap] w fun e w'=>e=.returned (.slice (some ⟨w.heap.size,0,none⟩) hs.length hs.length)/\Zq w.heap.size w' w.heap.size hs.length hs/\Below w.heap.size w w':=by
 have m:=Zai (P:=Tryz.prog) 42 87 (.agg #[.int .i64 0,.int .i64 0,.int .i64 0]) 3 24 Tryz.underlying42 (by kernel_rfl) .i64 .i64 hs.length (by omega) (by omega)
 have n:=Za (Zq.made w hs.length (by unfold maxLen;omega))
 rw [<-ZgW] at n
 go_enter Tryz.func46,Tryz.ntmps46
 go_wp2
 clear m
 go_loopw [4] (fun i wr=>∃k:Nat,k<=hs.length/\i=.int .i64 k/\Zq w.heap.size wr w.heap.size hs.length (ZbG hs k)/\Below w.heap.size w wr) (fun i _=>hs.length-(intOf i).toNat)
 case atStart=>exact⟨0,Nat.zero_le _,rfl,n.out,(Below.refl _ _).alloc (Nat.le_refl _) _⟩
 case round=>
  obtain⟨k,C,rfl,c,L⟩:=hrel
  by_cases hlt:k<hs.length
  · obtain⟨g,f,d⟩:=(hseg.below hb L) k hlt
    have s:=L.size
    have v:=c.lt.2
    have r:=Za c
    have t:=Za L
    clear c L
    go_wp2_with fail
    refine (toTS7 (Zr hs k) _).mono ?_
    rintro e y ⟨rfl,l⟩
    have a:=r.out.below (Nat.le_refl _) l
    have o:=t.out.trans (l.mono s)
    have h:=Zfg hs k (by omega)
    obtain⟨x,q,u⟩:=a.seg k (by omega)
    rw [Nat.zero_add] at x q u
    have A:=World.ownsRow.frozenAt a (k*3)
    have B:=World.ownsRow.frozenAt a (k*3+1)
    have z:=World.ownsRow.frozenAt a (k*3+2)
    have p:=Za (a.store k (Zr hs k))
    rw [Zhv hs k hlt] at p
    have j:=Za o
    clear a l o h g f d
    go_wp2_with fail
    go_roundw
    case rel=>exact⟨k+1,by omega,by go_num,p.out,((j.out.setCell (by simp) _).setCell (by simp) _).setCell (by simp) _⟩
    case measure=>simp [intOf];omega
  · go_wp2
    go_ret
    obtain rfl:k=hs.length:=by omega
    rw [Zhu] at c
    exact⟨rfl,c,L⟩
theorem ZiV(ao:Option Addr)(cap:Nat)(w:World):
 Calls Tryz.prog 46 #[.slice ao 0 cap] w fun e w'=>e=.returned (.slice (some ⟨w.heap.size,0,none⟩) 0 0)/\w'=w.alloc (.cells #[] 87):=by
 have a:∀w,(Instr.makeSlice 42 (.int .i64 0) (.int .i64 0)).run Tryz.prog w=.ok (.slice (some ⟨w.heap.size,0,none⟩) 0 0) (w.alloc (.cells #[] 87)):=fun _=>by kernel_rfl
 go_enter Tryz.func46,Tryz.ntmps46
 go_wp2
 clear a
 refine wp_loop_rounds 1 ?_
 rw [rounds_succ]
 go_wp2
 go_ret
 exact⟨rfl,rfl⟩
theorem ZoR(ao:Option Addr)(cap:Nat)(hs:List Zv)(w:World)(hv:Zm w ao hs)(hn:hs.length<=1048576):
 Calls Tryz.prog 46 #[.slice ao hs.length cap] w fun e w'=>∃b,e=.returned (.slice (some ⟨b,0,none⟩) hs.length hs.length)/\Zq w.heap.size w' b hs.length hs/\Below w.heap.size w w':=by
 rcases hv with rfl | ⟨b,off,rfl,hb,hseg⟩
 · refine (ZiV ao cap w).mono ?_
   rintro e w' ⟨rfl,rfl⟩
   exact⟨_,rfl,Zq.start w _ (Nat.le_refl _),(Below.refl _ _).alloc (Nat.le_refl _) _⟩
 · refine (ZiU b off cap hs w hseg hb hn).mono ?_
   rintro e w' ⟨rfl,a,L⟩
   exact⟨_,rfl,a,L⟩
theorem eqTS7(m m':Zv)(w:World):
 Calls Tryz.prog 92 #[.agg #[.int .i64 m.1,.int .i64 m.2.1,.int .i64 m.2.2],.agg #[.int .i64 m'.1,.int .i64 m'.2.1,.int .i64 m'.2.2]] w fun e w'=>e=.returned (.bool (decide (m=m')))/\Below w.heap.size w w':=by
 have b:Below w.heap.size w ((w.alloc (.cells #[.int .i64 m.1,.int .i64 m.2.1,.int .i64 m.2.2] 87)).alloc (.cells #[.int .i64 m'.1,.int .i64 m'.2.1,.int .i64 m'.2.2] 87)):=
  ((Below.refl _ _).alloc (Nat.le_refl _) _).alloc (by simp) _
 by_cases h:m.1=m'.1
 · have f:(m.1 !=m'.1)=false:=by simp [h]
   by_cases h2:m.2.1=m'.2.1
   · have d:(m.2.1 !=m'.2.1)=false:=by simp [h2]
     by_cases h3:m.2.2=m'.2.2
     · have c:(m.2.2 !=m'.2.2)=false:=by simp [h3]
       have a:=Za (decide_eq_true (Prod.ext h (Prod.ext h2 h3):m=m'))
       clear h h2 h3
       go_enter Tryz.func92,Tryz.ntmps92
       go_wp2_with fail
       go_ret
       exact⟨Zd a.out.symm,b⟩
     · have c:(m.2.2 !=m'.2.2)=true:=by simp [h3]
       have a:=Za (decide_eq_false (fun e:m=m'=>h3 (by rw [e])))
       clear h h2 h3
       go_enter Tryz.func92,Tryz.ntmps92
       go_wp2_with fail
       go_ret
       exact⟨Zd a.out.symm,b⟩
   · have d:(m.2.1 !=m'.2.1)=true:=by simp [h2]
     have a:=Za (decide_eq_false (fun e:m=m'=>h2 (by rw [e])))
     clear h h2
     go_enter Tryz.func92,Tryz.ntmps92
     go_wp2_with fail
     go_ret
     exact⟨Zd a.out.symm,b⟩
 · have f:(m.1 !=m'.1)=true:=by simp [h]
   have a:=Za (decide_eq_false (fun e:m=m'=>h (by rw [e])))
   clear h
   go_enter Tryz.func92,Tryz.ntmps92
   go_wp2_with fail
   go_ret
   exact⟨Zd a.out.symm,b⟩
theorem Zkw(ao ao':Option Addr)(n n' cap cap':Nat)(w:World)(h:n≠n'):
 Calls Tryz.prog 54 #[.slice ao n cap,.slice ao' n' cap'] w fun e w'=>e=.returned (.bool false)/\w'=w:=by
 have a:((n:Int) !=(n':Int))=true:=by simp;omega
 go_enter Tryz.func54,Tryz.ntmps54
 go_wp2
 go_ret
 exact⟨rfl,rfl⟩
theorem ZiW(ao ao':Option Addr)(cap cap':Nat)(ms ns:List Zv)(w:World)(hv:Zm w ao ms)(hv':Zm w ao' ns)(hn:ms.length<=4194304)(hl:ms.length=ns.length):
 Calls Tryz.prog 54 #[.slice ao ms.length cap,.slice ao' ns.length cap'] w fun e w'=>e=.returned (.bool (decide (ms=ns)))/\Below w.heap.size w w':=by
 have M:((ms.length:Int) !=(ns.length:Int))=false:=by simp [hl]
 have C:Hid (ms.length=ns.length):=hl
 have N:ns.length<=4194304:=by omega
 clear hl
 go_enter Tryz.func54,Tryz.ntmps54
 go_wp2
 go_loopw [5] (fun i wr=>∃k:Nat,k<=ms.length/\i=.int .i64 k/\(∀j,j<k->Zr ms j=Zr ns j)/\Below w.heap.size w wr) (fun i _=>ms.length-(intOf i).toNat)
 case atStart=>exact⟨0,Nat.zero_le _,rfl,fun j H=>by omega,Below.refl _ _⟩
 case round=>
  obtain⟨k,R,rfl,g,L⟩:=hrel
  have D:=Za g
  clear g
  by_cases hlt:k<ms.length
  · have q:k<ns.length:=by have:=C.out;omega
    obtain⟨b,c,rfl,O,E⟩:=hv.seg (by omega)
    obtain⟨n,a,rfl,B,r⟩:=hv'.seg (by omega)
    obtain⟨u,t,s⟩:=(E.below O L) k hlt
    obtain⟨x,A,v⟩:=(r.below B L) k q
    have P:=n0Z k
    have G:(k:Int)<(ms.length:Int):=by omega
    have K:(k:Int)<(ns.length:Int):=by omega
    have J:=L.size
    have o:b<wr.heap.size:=by omega
    have f:n<wr.heap.size:=by omega
    have I:=Za (eqTS7 (Zr ms k) (Zr ns k) wr.drew)
    have y:=Za L
    clear L E r
    go_wp2
    go_region_held3 (fun w'=>w'.cell? ⟨b,c+k*3,none⟩=some (.int .i64 (Zr ms k).1)/\w'.cell? ⟨b,c+k*3+1,none⟩=some (.int .i64 (Zr ms k).2.1)/\w'.cell? ⟨b,c+k*3+2,none⟩=some (.int .i64 (Zr ms k).2.2)/\w'.cell? ⟨n,a+k*3,none⟩=some (.int .i64 (Zr ns k).1)/\w'.cell? ⟨n,a+k*3+1,none⟩=some (.int .i64 (Zr ns k).2.1)/\w'.cell? ⟨n,a+k*3+2,none⟩=some (.int .i64 (Zr ns k).2.2))
     (first
       | go_keep
       | (refine⟨(l.cell (p:=⟨b,c+k*3,none⟩) o).trans u,(l.cell (p:=⟨b,c+k*3+1,none⟩) o).trans t,(l.cell (p:=⟨b,c+k*3+2,none⟩) o).trans s,(l.cell (p:=⟨n,a+k*3,none⟩) f).trans x,(l.cell (p:=⟨n,a+k*3+1,none⟩) f).trans A,(l.cell (p:=⟨n,a+k*3+2,none⟩) f).trans v⟩))
     (first
       | (go_at_call 92;refine I.out.mono ?_;rintro e Q ⟨rfl,l⟩))
    have F:=Za (y.out.drew.trans (l.mono J))
    clear l
    by_cases he:Zr ms k=Zr ns k
    · have m:decide (Zr ms k=Zr ns k)=true:=by simp [he]
      have z:=Za he
      clear he
      generalize decide (Zr ms k=Zr ns k)=d at *
      subst m
      go_wp2
      go_roundw
      case rel=>exact⟨k+1,by omega,by go_num,fun j H=>by
       rcases Nat.lt_or_ge j k with h | h
       · exact D.out j h
       · rw [show j=k by omega];exact z.out,F.out⟩
      case measure=>simp [intOf];omega
    · have m:decide (Zr ms k=Zr ns k)=false:=by simp [he]
      have z:=Za he
      clear he
      generalize decide (Zr ms k=Zr ns k)=d at *
      subst m
      go_wp2
      go_ret
      exact⟨Zd (Eq.symm (decide_eq_false (fun h=>z.out (by rw [h])))),F.out⟩
  · go_wp2
    go_ret
    obtain rfl:k=ms.length:=by omega
    exact⟨Zd (Eq.symm (decide_eq_true (Zny C.out D.out))),L⟩
theorem ZoS(ao ao':Option Addr)(cap cap':Nat)(ms ns:List Zv)(w:World)(hv:Zm w ao ms)(hv':Zm w ao' ns)(hn:ms.length<=4194304):
 Calls Tryz.prog 54 #[.slice ao ms.length cap,.slice ao' ns.length cap'] w fun e w'=>e=.returned (.bool (decide (ms=ns)))/\Below w.heap.size w w':=by
 by_cases hl:ms.length=ns.length
 · exact ZiW ao ao' cap cap' ms ns w hv hv' hn hl
 · refine (Zkw ao ao' ms.length ns.length cap cap' w hl).mono ?_
   rintro e w' ⟨rfl,rfl⟩
   exact⟨Zd (Eq.symm (decide_eq_false (fun h=>hl (by rw [h])))),Below.refl _ _⟩
def ZbR(k0:Int)(n:Nat):List Zv:=(List.range n).map fun (i:Nat)=>(k0+3*(i:Int),k0+3*(i:Int)+1,k0+3*(i:Int)+1+1)
def ZbH(k0:Int)(hs:List Zv)(k:Nat):List Zv:=ZbR k0 k++hs.drop k
theorem Za1(k0:Int)(n:Nat):(ZbR k0 n).length=n:=by simp [ZbR]
theorem Zkx(k0:Int)(n i:Nat)(h:i<n):Zr (ZbR k0 n) i=(k0+3*(i:Int),k0+3*(i:Int)+1,k0+3*(i:Int)+1+1):=by simp [Zr,ZbR,List.getD,h]
theorem Zfh(k0:Int)(hs:List Zv)(k:Nat)(h:k<=hs.length):(ZbH k0 hs k).length=hs.length:=by simp [ZbH,Za1];omega
theorem ZgX(k0:Int)(hs:List Zv):ZbH k0 hs 0=hs:=by simp [ZbH,ZbR]
theorem Zhx(k0:Int)(hs:List Zv):ZbH k0 hs hs.length=ZbR k0 hs.length:=by simp [ZbH]
theorem Zhy(k0:Int)(hs:List Zv)(k:Nat)(h:k<hs.length):(ZbH k0 hs k).set k (k0+3*(k:Int),k0+3*(k:Int)+1,k0+3*(k:Int)+1+1)=ZbH k0 hs (k+1):=by
 unfold ZbH
 have e:ZbR k0 (k+1)=ZbR k0 k++[(k0+3*(k:Int),k0+3*(k:Int)+1,k0+3*(k:Int)+1+1)]:=by simp [ZbR,List.range_succ]
 rw [List.set_append_right _ _ (by rw [Za1];exact Nat.le_refl _),Za1,Nat.sub_self,e,List.drop_eq_getElem_cons h,List.set_cons_zero]
 simp
theorem Zhz(base g c:Nat)(k0:Int)(hs:List Zv)(w:World)(hr:Zq base w g c hs)(hn:hs.length<=4194304)(h0:1<=k0)(h1:k0<=10000000):
 Calls Tryz.prog 56 #[.slice (some ⟨g,0,none⟩) hs.length c,.int .i64 k0] w fun e w'=>e=.returned (.int .i64 (k0+3*(hs.length:Int)))/\Zq base w' g c (ZbR k0 hs.length)/\w.grownBy w' (some g):=by
 go_enter Tryz.func56,Tryz.ntmps56
 go_wp2
 go_loopw [1,5] (fun j i wr=>∃k:Nat,k<=hs.length/\i=.int .i64 k/\j=.int .i64 (k0+3*(k:Int))/\Zq base wr g c (ZbH k0 hs k)/\w.grownBy wr (some g)) (fun _ i _=>hs.length-(intOf i).toNat)
 case atStart=>exact⟨0,Nat.zero_le _,rfl,by simp,by rw [ZgX];exact hr,Zbv _ _⟩
 case round=>
  obtain⟨k,m,rfl,rfl,a,b⟩:=hrel
  by_cases hlt:k<hs.length
  · have h:=Zfh k0 hs k m
    obtain⟨c0,c1,c2⟩:=a.seg k (by omega)
    rw [Nat.zero_add] at c0 c1 c2
    have n:=World.ownsRow.frozenAt a (k*3)
    have p:=World.ownsRow.frozenAt a (k*3+1)
    have o:=World.ownsRow.frozenAt a (k*3+2)
    have d:=a.store k (k0+3*(k:Int),k0+3*(k:Int)+1,k0+3*(k:Int)+1+1)
    rw [Zhy k0 hs k hlt] at d
    have f:=Za d
    have l:=Za b
    clear d a b h
    go_wp2
    go_roundw
    case rel=>exact⟨k+1,by omega,by go_num,by congr 1;omega,f.out,Zal (Zal (Zal l.out))⟩
    case measure=>simp [intOf];omega
  · go_wp2
    go_ret
    obtain rfl:k=hs.length:=by omega
    exact⟨rfl,by rw [<-Zhx];exact a,b⟩
theorem ZlI(ao:Option Addr)(cap n:Nat)(k0:Int)(w:World)(hv:Zm w ao (ZbR k0 n))(hn:n<=4194304)(h0:1<=k0)(h1:k0<=10000000):
 Calls Tryz.prog 58 #[.slice ao n cap,.int .i64 k0] w fun e w'=>e=.returned (.int .i64 (k0+3*(n:Int)))/\w'=w:=by
 go_enter Tryz.func58,Tryz.ntmps58
 go_wp2
 go_loop [1,5] (fun d i=>∃k:Nat,k<=n/\i=.int .i64 k/\d=.int .i64 (k0+3*(k:Int))) (fun _ i=>n-(intOf i).toNat)
 case atStart=>exact⟨0,Nat.zero_le _,rfl,by simp⟩
 case round=>
  obtain⟨k,j,rfl,rfl⟩:=hrel
  by_cases hlt:k<n
  · obtain⟨b,c,rfl,f,a⟩:=hv.seg (by rw [Za1];omega)
    obtain⟨c0,c1,c2⟩:=a k (by rw [Za1];exact hlt)
    rw [Zkx k0 n k hlt] at c0 c1 c2
    have g:(k0+3*(k:Int) !=k0+3*(k:Int))=false:=by simp
    have h:(k0+3*(k:Int)+1 !=k0+3*(k:Int)+1)=false:=by simp
    have l:(k0+3*(k:Int)+1+1 !=k0+3*(k:Int)+1+1)=false:=by simp
    go_wp2
    go_round
    case rel=>exact⟨k+1,by omega,by go_num,by congr 1;omega⟩
    case measure=>simp [intOf];omega
  · go_wp2
    go_ret
    obtain rfl:k=n:=by omega
    exact⟨rfl,rfl⟩
end Go.Proofs.YtilkaeclgmcolaaGreat
