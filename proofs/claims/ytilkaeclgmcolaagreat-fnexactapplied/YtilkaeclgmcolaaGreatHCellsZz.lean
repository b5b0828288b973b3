import Derived.Test.YtilkaeclgmcolaaGreatMathZz
import Derived.Test.YtilkaeclgmcolaaGreatAppendZz
namespace Go.Proofs.YtilkaeclgmcolaaGreat
open Go Go.RowKit
def Zn:List Ht->List Value
 | []=>[]
 | h::hs=>.int .i64 h.1::.int .i64 h.2::Zn hs
def Zdv(w:World)(b off:Nat)(hs:List Ht):Prop:=∀i,i<hs.length->w.cell? ⟨b,off+i*2,none⟩=some (.int .i64 (Zx hs i).1)/\w.cell? ⟨b,off+i*2+1,none⟩=some (.int .i64 (Zx hs i).2)
def Za7(w:World)(ao:Option Addr)(hs:List Ht):Prop:=hs=[]\/∃b off,ao=some ⟨b,off,none⟩/\b<w.heap.size/\Zdv w b off hs
def ZT(base:Nat)(w:World)(g c:Nat)(hs:List Ht):Prop:=w.ownsRow base 227 2 (.slice (some ⟨g,0,none⟩) hs.length c) hs.length (Zn hs)
theorem Za8(hs:List Ht):(Zn hs).length=hs.length*2:=by
 induction hs with
 | nil=>rfl
 | cons d ds ih=>simp [Zn,ih];omega
theorem Zak(ds es:List Ht):Zn (ds++es)=Zn ds++Zn es:=by
 induction ds with
 | nil=>rfl
 | cons d ds ih=>simp [Zn,ih]
theorem Zgu(ds:List Ht)(i:Nat)(h:i<ds.length):(Zn ds)[i*2]? =some (.int .i64 (Zx ds i).1)/\(Zn ds)[i*2+1]? =some (.int .i64 (Zx ds i).2):=by
 induction ds generalizing i with
 | nil=>simp at h
 | cons d ds ih=>
   match i,h with
   | 0,_=>exact⟨rfl,rfl⟩
   | k+1,h=>
     have:=ih k (by simpa using h)
     rw [show (k+1)*2=k*2+1+1 by omega]
     exact this
theorem ZfK(hs:List Ht):∀u∈Zn hs,u.oneCell'=true:=by
 induction hs with
 | nil=>intro u a;cases a
 | cons d ds ih=>
   intro u a
   simp only [Zn,List.mem_cons] at a
   rcases a with rfl | rfl | a
   · rfl
   · rfl
   · exact ih u a
theorem ZkV(hs:List Ht)(k i:Nat):Zx (hs.drop k) i=Zx hs (k+i):=by simp [Zx,List.getD]
theorem Zeu(hs:List Ht)(k i:Nat)(h:i<k):Zx (hs.take k) i=Zx hs i:=by simp [Zx,List.getD,h]
theorem ZhS{hs:List Ht}{i:Nat}(h:i<hs.length):Zx hs i∈hs:=by simp [Zx,List.getD,h]
theorem Zdv.below{w w':World}{B b off:Nat}{hs:List Ht}(h:Zdv w b off hs)(hb:b<B)(hw:Below B w w'):Zdv w' b off hs:=fun i hi=>
 ⟨(hw.cell (p:=⟨b,off+i*2,none⟩) hb).trans (h i hi).1,(hw.cell (p:=⟨b,off+i*2+1,none⟩) hb).trans (h i hi).2⟩
theorem Zdv.drop{w:World}{b off:Nat}{hs:List Ht}(h:Zdv w b off hs)(k:Nat):Zdv w b (off+k*2) (hs.drop k):=fun i hi=>by
 have:=h (k+i) (by simp at hi;omega)
 rw [ZkV,show off+k*2+i*2=off+(k+i)*2 by omega]
 exact this
theorem Zdv.take{w:World}{b off:Nat}{hs:List Ht}(h:Zdv w b off hs)(k:Nat):Zdv w b off (hs.take k):=fun i hi=>by
 have hi2:i<k/\i<hs.length:=by simp at hi;omega
 rw [Zeu hs k i hi2.1]
 exact h i hi2.2
theorem Za7.below{w w':World}{B:Nat}{ao:Option Addr}{hs:List Ht}(h:Za7 w ao hs)(hB:w.heap.size<=B)(hw:Below B w w'):Za7 w' ao hs:=by
 rcases h with h | ⟨b,off,e,hb,hs⟩
 · exact Or.inl h
 · exact Or.inr ⟨b,off,e,Nat.lt_of_lt_of_le hb hw.size,hs.below (Nat.lt_of_lt_of_le hb hB) hw⟩
theorem Za7.next{w w':World}{ao:Option Addr}{hs:List Ht}(h:Za7 w ao hs)(hw:Below w.heap.size w w'):Za7 w' ao hs:=h.below (Nat.le_refl _) hw
theorem Za7.seg{w:World}{ao:Option Addr}{hs:List Ht}(h:Za7 w ao hs)(h0:0<hs.length):∃b off,ao=some ⟨b,off,none⟩/\b<w.heap.size/\Zdv w b off hs:=by
 rcases h with h | h
 · subst h;simp at h0
 · exact h
theorem Zdv.src{w:World}{b off:Nat}{hs:List Ht}(h:Zdv w b off hs)(j:Nat)(u:Value)(hu:(Zn hs)[j]? =some u):w.cell? ((⟨b,off,none⟩:Addr).add j)=some u:=by
 have f:j<hs.length*2:=by
  rcases Nat.lt_or_ge j (hs.length*2) with h1 | h1
  · exact h1
  · rw [List.getElem?_eq_none (by rw [Za8];exact h1)] at hu;cases hu
 rw [Go.WideShapes.add_plain]
 have c:j / 2<hs.length:=by omega
 have d:=Zgu hs (j / 2) c
 have hs:=h (j / 2) c
 rcases Nat.mod_two_eq_zero_or_one j with e | e
 · have a:j=j / 2*2:=by omega
   rw [a] at hu ⊢
   rw [hs.1];rw [d.1] at hu;exact hu
 · have a:j=j / 2*2+1:=by omega
   rw [a] at hu ⊢
   rw [<-Nat.add_assoc,hs.2];rw [d.2] at hu;exact hu
theorem Za7.src{w:World}{ao:Option Addr}{hs:List Ht}(h:Za7 w ao hs):ZX w 2 ao hs.length (Zn hs):=by
 refine⟨Za8 hs,ZfK hs,?_⟩
 rcases h with h | ⟨b,off,rfl,_,hs⟩
 · subst h;exact Or.inl rfl
 · exact Or.inr ⟨_,rfl,hs.src⟩
theorem ZT.lt{base:Nat}{w:World}{g c:Nat}{hs:List Ht}(h:ZT base w g c hs):base<=g/\g<w.heap.size:=World.ownsRow.lt h g rfl
theorem ZT.seg{base:Nat}{w:World}{g c:Nat}{hs:List Ht}(h:ZT base w g c hs):Zdv w g 0 hs:=fun i hi=>by
 have:=Zgu hs i hi
 rw [Nat.zero_add,World.ownsRow.cellAt h _ (by omega),World.ownsRow.cellAt h _ (by omega)]
 exact this
theorem ZT.view{base:Nat}{w:World}{g c:Nat}{hs:List Ht}(h:ZT base w g c hs):Za7 w (some ⟨g,0,none⟩) hs:=Or.inr ⟨g,0,rfl,h.lt.2,h.seg⟩
theorem ZT.cap{base:Nat}{w:World}{g c:Nat}{hs:List Ht}(h:ZT base w g c hs):hs.length<=c:=by
 obtain⟨_,⟨a,_⟩ | ⟨e,d,b,a,_,_,f,_⟩⟩:=h
 · cases a
 · injection a with e1 e2 e3
   omega
theorem ZT.mono{base base':Nat}{w:World}{g c:Nat}{hs:List Ht}(h:ZT base w g c hs)(hb:base'<=base):ZT base' w g c hs:=
 ⟨h.1,h.2.imp id fun ⟨g,cap,cur,h1,h2,h3⟩=>⟨g,cap,cur,h1,Nat.le_trans hb h2,h3⟩⟩
theorem ZT.kept{base:Nat}{w w':World}{g c:Nat}{r:Option Nat}{hs:List Ht}(h:ZT base w g c hs)(hg:w.grownBy w' r)(hr:some g≠r):ZT base w' g c hs:=
 World.ownsRow.kept h hg (Or.inr hr)
theorem ZT.below{base B:Nat}{w w':World}{g c:Nat}{hs:List Ht}(h:ZT base w g c hs)(hB:w.heap.size<=B)(hw:Below B w w'):ZT base w' g c hs:=
 World.ownsRow.kept h (row:=none) ⟨hw.os,hw.tape,hw.output,hw.size,fun i hi _=>hw.block i (Nat.lt_of_lt_of_le hi hB)⟩ (Or.inr (by simp [Value.ownBlock]))
theorem ZT.start(w:World)(base:Nat)(hb:base<=w.heap.size):ZT base (w.alloc (.cells #[] 227)) w.heap.size 0 []:=World.ownsRow_lit w #[] 0 hb (Nat.zero_le _) rfl
theorem ZT.of{base:Nat}{w:World}{g c n:Nat}{hs:List Ht}{xs:List Value}(h:w.ownsRow base 227 2 (.slice (some ⟨g,0,none⟩) n c) n xs)(hn:n=hs.length)(hx:xs=Zn hs):ZT base w g c hs:=by
 subst hn hx;exact h
end Go.Proofs.YtilkaeclgmcolaaGreat
