import Derived.Test.YtaaagmgglolibaaGreatMathZz
import Derived.Test.YtaaagmgglolibaaGreatAppendZz
namespace Go.Proofs.YtaaagmgglolibaaGreat
open Go Go.RowKit
def Zm:List Ht->List Value
 | []=>[]
 | h::hs=>.int .i64 h.1::.int .i64 h.2::Zm hs
def Zdh(w:World)(b off:Nat)(hs:List Ht):Prop:=∀i,i<hs.length->w.cell? ⟨b,off+i*2,none⟩=some (.int .i64 (Zr hs i).1)/\w.cell? ⟨b,off+i*2+1,none⟩=some (.int .i64 (Zr hs i).2)
def Za3(w:World)(ao:Option Addr)(hs:List Ht):Prop:=hs=[]\/∃b off,ao=some ⟨b,off,none⟩/\b<w.heap.size/\Zdh w b off hs
def ZN(base:Nat)(w:World)(g c:Nat)(hs:List Ht):Prop:=w.ownsRow base 66 2 (.slice (some ⟨g,0,none⟩) hs.length c) hs.length (Zm hs)
theorem Za9(hs:List Ht):(Zm hs).length=hs.length*2:=by
 induction hs with
 | nil=>rfl
 | cons d ds ih=>simp [Zm,ih];omega
theorem Zal(ds es:List Ht):Zm (ds++es)=Zm ds++Zm es:=by
 induction ds with
 | nil=>rfl
 | cons d ds ih=>simp [Zm,ih]
theorem Zf2(ds:List Ht)(i:Nat)(h:i<ds.length):(Zm ds)[i*2]? =some (.int .i64 (Zr ds i).1)/\(Zm ds)[i*2+1]? =some (.int .i64 (Zr ds i).2):=by
 induction ds generalizing i with
 | nil=>simp at h
 | cons d ds ih=>
   match i,h with
   | 0,_=>exact⟨rfl,rfl⟩
   | k+1,h=>
     have:=ih k (by simpa using h)
     rw [show (k+1)*2=k*2+1+1 by omega]
     exact this
theorem Zff(hs:List Ht):∀u∈Zm hs,u.oneCell'=true:=by
 induction hs with
 | nil=>intro u hu;cases hu
 | cons d ds ih=>
   intro u hu
   simp only [Zm,List.mem_cons] at hu
   rcases hu with rfl | rfl | hu
   · rfl
   · rfl
   · exact ih u hu
theorem Zj4(hs:List Ht)(k i:Nat):Zr (hs.drop k) i=Zr hs (k+i):=by simp [Zr,List.getD]
theorem Zef(hs:List Ht)(k i:Nat)(h:i<k):Zr (hs.take k) i=Zr hs i:=by simp [Zr,List.getD,h]
theorem Zhf{hs:List Ht}{i:Nat}(h:i<hs.length):Zr hs i∈hs:=by simp [Zr,List.getD,h]
theorem Zdh.below{w w':World}{B b off:Nat}{hs:List Ht}(h:Zdh w b off hs)(hb:b<B)(hw:Below B w w'):Zdh w' b off hs:=fun i hi=>
 ⟨(hw.cell (p:=⟨b,off+i*2,none⟩) hb).trans (h i hi).1,(hw.cell (p:=⟨b,off+i*2+1,none⟩) hb).trans (h i hi).2⟩
theorem Zdh.drop{w:World}{b off:Nat}{hs:List Ht}(h:Zdh w b off hs)(k:Nat):Zdh w b (off+k*2) (hs.drop k):=fun i hi=>by
 have:=h (k+i) (by simp at hi;omega)
 rw [Zj4,show off+k*2+i*2=off+(k+i)*2 by omega]
 exact this
theorem Zdh.take{w:World}{b off:Nat}{hs:List Ht}(h:Zdh w b off hs)(k:Nat):Zdh w b off (hs.take k):=fun i hi=>by
 have hi2:i<k/\i<hs.length:=by simp at hi;omega
 rw [Zef hs k i hi2.1]
 exact h i hi2.2
theorem Za3.below{w w':World}{B:Nat}{ao:Option Addr}{hs:List Ht}(h:Za3 w ao hs)(hB:w.heap.size<=B)(hw:Below B w w'):Za3 w' ao hs:=by
 rcases h with h | ⟨b,off,e,hb,hs⟩
 · exact Or.inl h
 · exact Or.inr ⟨b,off,e,Nat.lt_of_lt_of_le hb hw.size,hs.below (Nat.lt_of_lt_of_le hb hB) hw⟩
theorem Za3.next{w w':World}{ao:Option Addr}{hs:List Ht}(h:Za3 w ao hs)(hw:Below w.heap.size w w'):Za3 w' ao hs:=h.below (Nat.le_refl _) hw
theorem Za3.seg{w:World}{ao:Option Addr}{hs:List Ht}(h:Za3 w ao hs)(h0:0<hs.length):∃b off,ao=some ⟨b,off,none⟩/\b<w.heap.size/\Zdh w b off hs:=by
 rcases h with h | h
 · subst h;simp at h0
 · exact h
theorem Zdh.src{w:World}{b off:Nat}{hs:List Ht}(h:Zdh w b off hs)(j:Nat)(u:Value)(hu:(Zm hs)[j]? =some u):w.cell? ((⟨b,off,none⟩:Addr).add j)=some u:=by
 have hj:j<hs.length*2:=by
  rcases Nat.lt_or_ge j (hs.length*2) with h1 | h1
  · exact h1
  · rw [List.getElem?_eq_none (by rw [Za9];exact h1)] at hu;cases hu
 rw [Go.WideShapes.add_plain]
 have hi:j / 2<hs.length:=by omega
 have hc:=Zf2 hs (j / 2) hi
 have hs:=h (j / 2) hi
 rcases Nat.mod_two_eq_zero_or_one j with e | e
 · have ej:j=j / 2*2:=by omega
   rw [ej] at hu ⊢
   rw [hs.1];rw [hc.1] at hu;exact hu
 · have ej:j=j / 2*2+1:=by omega
   rw [ej] at hu ⊢
   rw [<-Nat.add_assoc,hs.2];rw [hc.2] at hu;exact hu
theorem Za3.src{w:World}{ao:Option Addr}{hs:List Ht}(h:Za3 w ao hs):ZV w 2 ao hs.length (Zm hs):=by
 refine⟨Za9 hs,Zff hs,?_⟩
 rcases h with h | ⟨b,off,rfl,_,hs⟩
 · subst h;exact Or.inl rfl
 · exact Or.inr ⟨_,rfl,hs.src⟩
theorem ZN.lt{base:Nat}{w:World}{g c:Nat}{hs:List Ht}(h:ZN base w g c hs):base<=g/\g<w.heap.size:=World.ownsRow.lt h g rfl
theorem ZN.seg{base:Nat}{w:World}{g c:Nat}{hs:List Ht}(h:ZN base w g c hs):Zdh w g 0 hs:=fun i hi=>by
 have:=Zf2 hs i hi
 rw [Nat.zero_add,World.ownsRow.cellAt h _ (by omega),World.ownsRow.cellAt h _ (by omega)]
 exact this
theorem ZN.view{base:Nat}{w:World}{g c:Nat}{hs:List Ht}(h:ZN base w g c hs):Za3 w (some ⟨g,0,none⟩) hs:=Or.inr ⟨g,0,rfl,h.lt.2,h.seg⟩
theorem ZN.cap{base:Nat}{w:World}{g c:Nat}{hs:List Ht}(h:ZN base w g c hs):hs.length<=c:=by
 obtain⟨_,⟨h1,_⟩ | ⟨g',c',cur,h1,_,_,h2,_⟩⟩:=h
 · cases h1
 · injection h1 with e1 e2 e3
   omega
theorem ZN.mono{base base':Nat}{w:World}{g c:Nat}{hs:List Ht}(h:ZN base w g c hs)(hb:base'<=base):ZN base' w g c hs:=
 ⟨h.1,h.2.imp id fun ⟨g,cap,cur,h1,h2,h3⟩=>⟨g,cap,cur,h1,Nat.le_trans hb h2,h3⟩⟩
theorem ZN.kept{base:Nat}{w w':World}{g c:Nat}{r:Option Nat}{hs:List Ht}(h:ZN base w g c hs)(hg:w.grownBy w' r)(hr:some g≠r):ZN base w' g c hs:=
 World.ownsRow.kept h hg (Or.inr hr)
theorem ZN.below{base B:Nat}{w w':World}{g c:Nat}{hs:List Ht}(h:ZN base w g c hs)(hB:w.heap.size<=B)(hw:Below B w w'):ZN base w' g c hs:=
 World.ownsRow.kept h (row:=none) ⟨hw.os,hw.tape,hw.output,hw.size,fun i hi _=>hw.block i (Nat.lt_of_lt_of_le hi hB)⟩ (Or.inr (by simp [Value.ownBlock]))
theorem ZN.start(w:World)(base:Nat)(hb:base<=w.heap.size):ZN base (w.alloc (.cells #[] 66)) w.heap.size 0 []:=World.ownsRow_lit w #[] 0 hb (Nat.zero_le _) rfl
theorem ZN.of{base:Nat}{w:World}{g c n:Nat}{hs:List Ht}{xs:List Value}(h:w.ownsRow base 66 2 (.slice (some ⟨g,0,none⟩) n c) n xs)(hn:n=hs.length)(hx:xs=Zm hs):ZN base w g c hs:=by
 subst hn hx;exact h
end Go.Proofs.YtaaagmgglolibaaGreat
