import Derived.Test.YtaaagmgglolibaaGreatCellsZz
import Derived.Test.YtaaagmgglolibaaGreatMathZz
import Derived.Laws.MakeOwn
namespace Go.Proofs.YtaaagmgglolibaaGreat
open Go Go.RowKit
theorem Za{p:Prop}(h:p):Hid p:=h
def MAt(w:World)(b off:Nat)(m:Mk):Prop:=
 w.cell? ⟨b,off,none⟩=some (.int .i64 m.1)/\∃ao cap,w.cell? ⟨b,off+1,none⟩=some (.slice ao m.2.length cap)/\Zs w ao m.2
def ZH(ms:List Mk)(i:Nat):Mk:=ms.getD i (0,[])
theorem Zlg(ms:List Mk)(i:Nat):(ZH ms i).1=mid ms i:=rfl
theorem ZkZ(ms:List Mk)(i:Nat):(ZH ms i).2=mat ms i:=rfl
def Zbi(w:World)(b off:Nat)(ms:List Mk):Prop:=∀i,i<ms.length->MAt w b (off+i*2) (ZH ms i)
def Zq(w:World)(ao:Option Addr)(ms:List Mk):Prop:=ms=[]\/∃b off,ao=some ⟨b,off,none⟩/\b<w.heap.size/\Zbi w b off ms
def ZX(ms:List Mk):Prop:=ms.length<=1048576/\∀i,(mat ms i).length<=1048576
theorem MAt.below{w w':World}{B b off:Nat}{m:Mk}(h:MAt w b off m)(hb:b<B)(hB:w.heap.size<=B)(hw:Below B w w'):MAt w' b off m:=by
 obtain⟨h0,ao,cap,h1,hv⟩:=h
 exact⟨(hw.cell (p:=⟨b,off,none⟩) hb).trans h0,ao,cap,(hw.cell (p:=⟨b,off+1,none⟩) hb).trans h1,hv.below hB hw⟩
theorem Zbi.below{w w':World}{B b off:Nat}{ms:List Mk}(h:Zbi w b off ms)(hb:b<B)(hB:w.heap.size<=B)(hw:Below B w w'):Zbi w' b off ms:=
 fun i hi=>(h i hi).below hb hB hw
theorem Zq.below{w w':World}{B:Nat}{ao:Option Addr}{ms:List Mk}(h:Zq w ao ms)(hB:w.heap.size<=B)(hw:Below B w w'):Zq w' ao ms:=by
 rcases h with h | ⟨b,off,e,hb,hs⟩
 · exact Or.inl h
 · exact Or.inr ⟨b,off,e,Nat.lt_of_lt_of_le hb hw.size,hs.below (Nat.lt_of_lt_of_le hb hB) hB hw⟩
theorem Zq.next{w w':World}{ao:Option Addr}{ms:List Mk}(h:Zq w ao ms)(hw:Below w.heap.size w w'):Zq w' ao ms:=h.below (Nat.le_refl _) hw
theorem Zs.next{w w':World}{ao:Option Addr}{xs:List Int}(h:Zs w ao xs)(hw:Below w.heap.size w w'):Zs w' ao xs:=h.below (Nat.le_refl _) hw
theorem Zq.drewN{w:World}{ao:Option Addr}{ms:List Mk}(h:Zq w ao ms)(n:Nat):Zq (w.drewN n) ao ms:=h
theorem Zs.drew{w:World}{ao:Option Addr}{xs:List Int}(h:Zs w ao xs):Zs w.drew ao xs:=h
theorem Zbi.at{w:World}{b off:Nat}{ms:List Mk}(h:Zbi w b off ms){i:Nat}(hi:i<ms.length):
 w.cell? ⟨b,off+i*2,none⟩=some (.int .i64 (mid ms i))/\∃ao cap,w.cell? ⟨b,off+i*2+1,none⟩=some (.slice ao (mat ms i).length cap)/\Zs w ao (mat ms i):=h i hi
theorem Zbi.seg{w:World}{ao:Option Addr}{ms:List Mk}(h:Zq w ao ms)(h0:0<ms.length):∃b off,ao=some ⟨b,off,none⟩/\b<w.heap.size/\Zbi w b off ms:=by
 rcases h with h | h
 · subst h;simp at h0
 · exact h
theorem Zba(w:World)(b i j:Nat)(v:Value)(h:i≠j):(w.setCell ⟨b,i,none⟩ v).cell? ⟨b,j,none⟩=w.cell? ⟨b,j,none⟩:=
 World.cell?_setCell_other w _ _ v (by intro e;exact h (by injection e))
theorem Zb(w:World)(a:Addr)(v:Value):(w.setCell a v).heap.size=w.heap.size:=by simp
theorem Zak{P:Program}(t e:TypeId)(z:Value)(size bytes:Nat)(ht:P.underlying t=some (.slice e))(hinfo:(P.info? e).map (fun i=>(i.zero,i.size,i.bytes))=some (some z,size,bytes))
 (kl kc:IntKind) (n:Nat) (hbytes:bytes*n<=281474976710656) (h63:n<=9223372036854775807) (w:World):
 (Instr.makeSlice t (.int kl (n:Int)) (.int kc (n:Int))).run P w=.ok (.slice (some ⟨w.heap.size,0,none⟩) n n) (w.alloc (.cells (madeCells z.cells (n*size)) e)):=by
 obtain⟨i,hi,hzz⟩:=Option.map_eq_some_iff.1 hinfo
 simp only [Prod.mk.injEq] at hzz
 obtain⟨hz,hs,hb⟩:=hzz
 subst hb hs
 have hb':(i.bytes:Int)*(n:Int)<=281474976710656:=by
  have h:((i.bytes*n:Nat):Int)<=281474976710656:=by omega
  rwa [Int.natCast_mul] at h
 have hr:=run_make (P:=P) w t e i z ht hi hz kl kc n n (by omega) (Int.le_refl _) hb' (by omega)
 simpa only [Int.toNat_natCast] using hr
theorem ZkA{w w':World}{b:Nat}{xs:List Int}{r:Option Nat}(h:Seg w b 0 xs)(hb:b<w.heap.size)(hg:w.grownBy w' r)(hr:some b≠r):Seg w' b 0 xs:=fun i hi=>
 (World.cell?_of_block (w:=w) (a:=⟨b,0+i,none⟩) (hg.block b hb hr)).trans (h i hi)
theorem ZdB{w w':World}{g j:Nat}{r:Option Nat}(hb:g<w.heap.size)(hg:w.grownBy w' r)(hr:some g≠r):w'.cell? ⟨g,j,none⟩=w.cell? ⟨g,j,none⟩:=
 World.cell?_of_block (w:=w) (a:=⟨g,j,none⟩) (hg.block g hb hr)
theorem ZdS{w w':World}{g j:Nat}{r:Option Nat}(hb:g<w.heap.size)(hg:w.grownBy w' r)(hr:some g≠r):w'.frozen? ⟨g,j,none⟩=w.frozen? ⟨g,j,none⟩:=
 World.frozen?_of_block (w:=w) (a:=⟨g,j,none⟩) (hg.block g hb hr)
theorem ZaT(w:World)(g j:Nat)(v:Value):w.grownBy (w.setCell ⟨g,j,none⟩ v) (some g):=
 ⟨rfl,rfl,rfl,Nat.le_of_eq (Zb w _ v).symm,fun i _ hne=>Below.heap_setCell w ⟨g,j,none⟩ v i (fun e=>hne (by rw [e]))⟩
end Go.Proofs.YtaaagmgglolibaaGreat
