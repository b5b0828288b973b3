import Derived.Test.YtilkaeclgmcolaaGreatCellsZz
import Derived.Test.YtilkaeclgmcolaaGreatMathZz
import Derived.Laws.MakeOwn
namespace Go.Proofs.YtilkaeclgmcolaaGreat
open Go Go.RowKit
theorem Za{p:Prop}(h:p):Hid p:=h
def MAt(w:World)(b off:Nat)(m:Mk):Prop:=
 w.cell? ⟨b,off,none⟩=some (.int .i64 m.1)/\∃ao cap,w.cell? ⟨b,off+1,none⟩=some (.slice ao m.2.length cap)/\Zy w ao m.2
def ZJ(ms:List Mk)(i:Nat):Mk:=ms.getD i (0,[])
theorem Zpb(ms:List Mk)(i:Nat):(ZJ ms i).1=mid ms i:=rfl
theorem Zpx(ms:List Mk)(i:Nat):(ZJ ms i).2=mat ms i:=rfl
def ZaV(w:World)(b off:Nat)(ms:List Mk):Prop:=∀i,i<ms.length->MAt w b (off+i*2) (ZJ ms i)
def Zo(w:World)(ao:Option Addr)(ms:List Mk):Prop:=ms=[]\/∃b off,ao=some ⟨b,off,none⟩/\b<w.heap.size/\ZaV w b off ms
def ZL(ms:List Mk):Prop:=ms.length<=1048576/\∀i,(mat ms i).length<=1048576
theorem MAt.below{w w':World}{B b off:Nat}{m:Mk}(h:MAt w b off m)(hb:b<B)(hB:w.heap.size<=B)(hw:Below B w w'):MAt w' b off m:=by
 obtain⟨a,e,cap,c,d⟩:=h
 exact⟨(hw.cell (p:=⟨b,off,none⟩) hb).trans a,e,cap,(hw.cell (p:=⟨b,off+1,none⟩) hb).trans c,d.below hB hw⟩
theorem ZaV.below{w w':World}{B b off:Nat}{ms:List Mk}(h:ZaV w b off ms)(hb:b<B)(hB:w.heap.size<=B)(hw:Below B w w'):ZaV w' b off ms:=
 fun i hi=>(h i hi).below hb hB hw
theorem Zo.below{w w':World}{B:Nat}{ao:Option Addr}{ms:List Mk}(h:Zo w ao ms)(hB:w.heap.size<=B)(hw:Below B w w'):Zo w' ao ms:=by
 rcases h with h | ⟨b,off,e,hb,hs⟩
 · exact Or.inl h
 · exact Or.inr ⟨b,off,e,Nat.lt_of_lt_of_le hb hw.size,hs.below (Nat.lt_of_lt_of_le hb hB) hB hw⟩
theorem Zo.next{w w':World}{ao:Option Addr}{ms:List Mk}(h:Zo w ao ms)(hw:Below w.heap.size w w'):Zo w' ao ms:=h.below (Nat.le_refl _) hw
theorem Zy.next{w w':World}{ao:Option Addr}{xs:List Int}(h:Zy w ao xs)(hw:Below w.heap.size w w'):Zy w' ao xs:=h.below (Nat.le_refl _) hw
theorem Zo.drewN{w:World}{ao:Option Addr}{ms:List Mk}(h:Zo w ao ms)(n:Nat):Zo (w.drewN n) ao ms:=h
theorem Zy.drew{w:World}{ao:Option Addr}{xs:List Int}(h:Zy w ao xs):Zy w.drew ao xs:=h
theorem ZaV.at{w:World}{b off:Nat}{ms:List Mk}(h:ZaV w b off ms){i:Nat}(hi:i<ms.length):
 w.cell? ⟨b,off+i*2,none⟩=some (.int .i64 (mid ms i))/\∃ao cap,w.cell? ⟨b,off+i*2+1,none⟩=some (.slice ao (mat ms i).length cap)/\Zy w ao (mat ms i):=h i hi
theorem ZaV.seg{w:World}{ao:Option Addr}{ms:List Mk}(h:Zo w ao ms)(h0:0<ms.length):∃b off,ao=some ⟨b,off,none⟩/\b<w.heap.size/\ZaV w b off ms:=by
 rcases h with h | h
 · subst h;simp at h0
 · exact h
theorem mk_eq{ms ns:List Mk}(hl:ms.length=ns.length)(h:∀i,i<ms.length->mid ms i=mid ns i/\mat ms i=mat ns i):ms=ns:=by
 apply List.ext_getElem hl
 intro i a b
 have:=h i a
 simp [mid,mat,List.getD,a,b] at this
 exact Prod.ext this.1 this.2
def Zhk(w:World)(b off:Nat)(m:Mk):Prop:=
 w.cell? ⟨b,off,none⟩=some (.int .i64 m.1)/\∃g,b<g/\w.cell? ⟨b,off+1,none⟩=some (.slice (some ⟨g,0,none⟩) m.2.length m.2.length)/\Own w g m.2
def ZaQ(w:World)(b k n:Nat)(ms:List Mk):Prop:=b<w.heap.size/\(∀i,i<k->Zhk w b (i*2) (ZJ ms i))/\(∀j,k*2<=j->j<n*2->(∃v,w.cell? ⟨b,j,none⟩=some v/\w.frozen? ⟨b,j,none⟩=false))/\∀j,w.frozen? ⟨b,j,none⟩=false
theorem Zhk.below{w w':World}{B b off:Nat}{m:Mk}(h:Zhk w b off m)(hB:w.heap.size<=B)(hb:b<w.heap.size)(hw:Below B w w'):Zhk w' b off m:=by
 obtain⟨f,g,d,e,c⟩:=h
 have a:b<B:=Nat.lt_of_lt_of_le hb hB
 exact⟨(hw.cell (p:=⟨b,off,none⟩) a).trans f,g,d,(hw.cell (p:=⟨b,off+1,none⟩) a).trans e,c.below (Nat.lt_of_lt_of_le c.lt hB) hw⟩
theorem ZaQ.below{w w':World}{B b k n:Nat}{ms:List Mk}(h:ZaQ w b k n ms)(hB:w.heap.size<=B)(hw:Below B w w'):ZaQ w' b k n ms:=
 ⟨Nat.lt_of_lt_of_le h.1 hw.size,fun i hi=>(h.2.1 i hi).below hB h.1 hw,fun j h1 h2=>by
  obtain⟨v,hv,hf⟩:=h.2.2.1 j h1 h2
  exact⟨v,(hw.cell (p:=⟨b,j,none⟩) (Nat.lt_of_lt_of_le h.1 hB)).trans hv,(hw.frozen (p:=⟨b,j,none⟩) (Nat.lt_of_lt_of_le h.1 hB)).trans hf⟩,fun j=>(hw.frozen (p:=⟨b,j,none⟩) (Nat.lt_of_lt_of_le h.1 hB)).trans (h.2.2.2 j)⟩
theorem Own.setOther{w:World}{b:Nat}{xs:List Int}(h:Own w b xs){a:Addr}(ha:b≠a.block)(v:Value):Own (w.setCell a v) b xs:=
 (Below.heap_setCell w a v b ha).trans h
theorem ZP(w:World)(b i j:Nat)(v:Value)(h:i≠j):(w.setCell ⟨b,i,none⟩ v).cell? ⟨b,j,none⟩=w.cell? ⟨b,j,none⟩:=
 World.cell?_setCell_other w _ _ v (by intro e;exact h (by injection e))
theorem Ze(w:World)(a:Addr)(v:Value):(w.setCell a v).heap.size=w.heap.size:=by simp
theorem ZaQ.step{w:World}{b k n g:Nat}{ms:List Mk}(h:ZaQ w b k n ms)(hk:k<n)(hg:b<g)(ho:Own w g (mat ms k)):
 ZaQ ((w.setCell ⟨b,k*2,none⟩ (.int .i64 (mid ms k))).setCell ⟨b,k*2+1,none⟩ (.slice (some ⟨g,0,none⟩) (mat ms k).length (mat ms k).length)) b (k+1) n ms:=by
 obtain⟨f,c,a,e⟩:=h
 obtain⟨v,r,_⟩:=a (k*2) (Nat.le_refl _) (by omega)
 obtain⟨q,o,_⟩:=a (k*2+1) (by omega) (by omega)
 refine⟨by rw [Ze,Ze];exact f,fun i s=>?_,fun j t p=>?_,fun j=>by rw [World.frozen?_setCell,World.frozen?_setCell];exact e j⟩
 · rcases Nat.lt_or_ge i k with h | h
   · obtain⟨c0,l,d,c1,m⟩:=c i h
     refine⟨?_,l,d,?_,(m.setOther (by simp;omega) _).setOther (by simp;omega) _⟩
     · rw [ZP _ _ _ _ _ (by omega),ZP _ _ _ _ _ (by omega)];exact c0
     · rw [ZP _ _ _ _ _ (by omega),ZP _ _ _ _ _ (by omega)];exact c1
   · obtain rfl:i=k:=by omega
     refine⟨?_,g,hg,?_,(ho.setOther (by simp;omega) _).setOther (by simp;omega) _⟩
     · rw [ZP _ _ _ _ _ (by omega)];exact World.cell?_setCell_same _ _ _ r
     · exact World.cell?_setCell_same _ _ _ (u:=q) (by rw [ZP _ _ _ _ _ (by omega)];exact o)
 · rw [ZP _ _ _ _ _ (by omega),ZP _ _ _ _ _ (by omega),World.frozen?_setCell,World.frozen?_setCell]
   exact a j (by omega) p
theorem ZaQ.view{w:World}{b:Nat}{ms:List Mk}(h:ZaQ w b ms.length ms.length ms):Zo w (some ⟨b,0,none⟩) ms:=
 Or.inr ⟨b,0,rfl,h.1,fun i hi=>by
  obtain⟨c0,g,_,c1,o⟩:=h.2.1 i hi
  rw [Nat.zero_add]
  exact⟨c0,_,_,c1,o.view⟩⟩
theorem ZaQ.start(w:World)(z:Array Value)(t:TypeId)(n:Nat)(ms:List Mk):ZaQ (w.alloc (.cells (madeCells z (n*2)) t)) w.heap.size 0 n ms:=
 ⟨by simp,fun i hi=>by omega,fun j _ h2=>by
  rw [World.cell?_alloc_at _ _ _ _ rfl,World.frozen?_alloc_at _ _ _ _ rfl]
  exact⟨_,Array.getElem?_eq_getElem (by rw [size_madeCells];exact h2),rfl⟩,fun j=>World.frozen?_alloc_at _ _ _ _ rfl⟩
theorem Zai{P:Program}(t e:TypeId)(z:Value)(size bytes:Nat)(ht:P.underlying t=some (.slice e))(hinfo:(P.info? e).map (fun i=>(i.zero,i.size,i.bytes))=some (some z,size,bytes))
 (kl kc:IntKind) (n:Nat) (hbytes:bytes*n<=281474976710656) (h63:n<=9223372036854775807) (w:World):
 (Instr.makeSlice t (.int kl (n:Int)) (.int kc (n:Int))).run P w=.ok (.slice (some ⟨w.heap.size,0,none⟩) n n) (w.alloc (.cells (madeCells z.cells (n*size)) e)):=by
 obtain⟨i,c,a⟩:=Option.map_eq_some_iff.1 hinfo
 simp only [Prod.mk.injEq] at a
 obtain⟨g,j,d⟩:=a
 subst d j
 have b:(i.bytes:Int)*(n:Int)<=281474976710656:=by
  have h:((i.bytes*n:Nat):Int)<=281474976710656:=by omega
  rwa [Int.natCast_mul] at h
 have f:=run_make (P:=P) w t e i z ht c g kl kc n n (by omega) (Int.le_refl _) b (by omega)
 simpa only [Int.toNat_natCast] using f
theorem Zcl{w w':World}{g j:Nat}{r:Option Nat}(hb:g<w.heap.size)(hg:w.grownBy w' r)(hr:some g≠r):w'.cell? ⟨g,j,none⟩=w.cell? ⟨g,j,none⟩:=
 World.cell?_of_block (w:=w) (a:=⟨g,j,none⟩) (hg.block g hb hr)
theorem Zb6{w w':World}{g j:Nat}{r:Option Nat}(hb:g<w.heap.size)(hg:w.grownBy w' r)(hr:some g≠r):w'.frozen? ⟨g,j,none⟩=w.frozen? ⟨g,j,none⟩:=
 World.frozen?_of_block (w:=w) (a:=⟨g,j,none⟩) (hg.block g hb hr)
theorem ZbI(w:World)(g j:Nat)(v:Value):w.grownBy (w.setCell ⟨g,j,none⟩ v) (some g):=
 ⟨rfl,rfl,rfl,Nat.le_of_eq (Ze w _ v).symm,fun i _ hne=>Below.heap_setCell w ⟨g,j,none⟩ v i (fun e=>hne (by rw [e]))⟩
end Go.Proofs.YtilkaeclgmcolaaGreat
