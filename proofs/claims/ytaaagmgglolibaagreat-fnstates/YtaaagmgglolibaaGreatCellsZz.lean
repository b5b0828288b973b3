import Derived.WalkKit
import Derived.Deep.OwnRows
import Derived.Deep.Draws
import Derived.Test.YtaaagmgglolibaaGreatMathZz
namespace Go.Proofs.YtaaagmgglolibaaGreat
open Go Go.RowKit
def ZeV(xs:List Int):Array Value:=(xs.map (Value.int .i64)).toArray
def Zb3(g:Nat->Int)(n k:Nat):Array Value:=ZeV (ZaU g k++List.replicate (n-k) 0)
def Seg(w:World)(b off:Nat)(xs:List Int):Prop:=∀i,i<xs.length->w.cell? ⟨b,off+i,none⟩=some (.int .i64 (nth xs i))
theorem ZmC(xs:List Int)(i:Nat)(h:i<xs.length):(ZeV xs)[i]? =some (.int .i64 (nth xs i)):=by
 simp [ZeV,nth,List.getD,h]
theorem Zg5(g:Nat->Int)(n:Nat):Zb3 g n 0=madeCells #[.int .i64 0] n:=by
 apply Array.ext
 · simp [Zb3,ZeV,madeCells,ZaU]
 · intro i h1 h2
   simp [Zb3,ZeV,madeCells,ZaU,Nat.mod_one]
theorem Zg6(g:Nat->Int)(n k:Nat)(h:k<n):(Zb3 g n k)[k]? =some (.int .i64 0):=by
 unfold Zb3 ZeV
 rw [List.getElem?_toArray,List.getElem?_map,List.getElem?_append_right (by rw [ZE];exact Nat.le_refl _),ZE,Nat.sub_self,List.getElem?_replicate,if_pos (by omega)]
 rfl
theorem Zig(g:Nat->Int)(n k:Nat)(h:k<n):(Zb3 g n k).setIfInBounds k (.int .i64 (g k))=Zb3 g n (k+1):=by
 apply Array.ext_getElem?
 intro j
 simp only [Zb3,ZeV,List.setIfInBounds_toArray,List.getElem?_toArray,ZfT]
 rw [List.getElem?_set]
 by_cases hj:k=j
 · subst hj
   rw [if_pos rfl,if_pos (by simp [ZE];omega),List.getElem?_map,List.append_assoc,List.getElem?_append_right (by rw [ZE];exact Nat.le_refl _),ZE,Nat.sub_self]
   rfl
 · rw [if_neg hj,List.getElem?_map,List.getElem?_map,List.append_assoc]
   by_cases hlt:j<k
   · rw [List.getElem?_append_left (by rw [ZE];exact hlt),List.getElem?_append_left (by rw [ZE];exact hlt)]
   · rw [List.getElem?_append_right (by rw [ZE];omega),List.getElem?_append_right (by rw [ZE];omega),ZE,List.getElem?_append_right (by simp;omega)]
     simp only [List.length_cons,List.length_nil,List.getElem?_replicate]
     by_cases hjn:j<n
     · rw [if_pos (by omega),if_pos (by omega)]
     · rw [if_neg (by omega),if_neg (by omega)]
theorem Zih(g:Nat->Int)(n:Nat):Zb3 g n n=ZeV (ZaU g n):=by simp [Zb3]
theorem Seg.alloc{w:World}{b off:Nat}{xs:List Int}(h:Seg w b off xs)(hb:b<w.heap.size)(o:Obj):Seg (w.alloc o) b off xs:=fun i hi=>by
 rw [World.cell?_alloc_past _ _ _ hb];exact h i hi
theorem Seg.below{w w':World}{B b off:Nat}{xs:List Int}(h:Seg w b off xs)(hb:b<B)(hw:Below B w w'):Seg w' b off xs:=fun i hi=>
 (hw.cell (p:=⟨b,off+i,none⟩) hb).trans (h i hi)
def Own(w:World)(b:Nat)(xs:List Int):Prop:=w.heap[b]? =some (.cells (ZeV xs) 2)
theorem Own.cell{w:World}{b:Nat}{xs:List Int}(h:Own w b xs)(i:Nat):w.cell? ⟨b,i,none⟩=(ZeV xs)[i]? :=by
 unfold Own at h;simp [World.cell?,h]
theorem Own.seg{w:World}{b:Nat}{xs:List Int}(h:Own w b xs):Seg w b 0 xs:=fun i hi=>by
 rw [Nat.zero_add,h.cell];exact ZmC xs i hi
theorem Own.new(w:World)(xs:List Int):Own (w.alloc (.cells (ZeV xs) 2)) w.heap.size xs:=by
 show (w.heap.push _)[w.heap.size]? =_
 simp
theorem Own.drewN{w:World}{b:Nat}{xs:List Int}(h:Own w b xs)(n:Nat):Own (w.drewN n) b xs:=h
theorem Seg.drewN{w:World}{b off:Nat}{xs:List Int}(h:Seg w b off xs)(n:Nat):Seg (w.drewN n) b off xs:=h
def Zs(w:World)(ao:Option Addr)(xs:List Int):Prop:=xs=[]\/∃b off,ao=some ⟨b,off,none⟩/\b<w.heap.size/\Seg w b off xs
theorem Zs.below{w w':World}{B:Nat}{ao:Option Addr}{xs:List Int}(h:Zs w ao xs)(hB:w.heap.size<=B)(hw:Below B w w'):Zs w' ao xs:=by
 rcases h with h | ⟨b,off,e,hb,hs⟩
 · exact Or.inl h
 · exact Or.inr ⟨b,off,e,Nat.lt_of_lt_of_le hb hw.size,hs.below (Nat.lt_of_lt_of_le hb hB) hw⟩
theorem Zs.drewN{w:World}{ao:Option Addr}{xs:List Int}(h:Zs w ao xs)(n:Nat):Zs (w.drewN n) ao xs:=h
theorem ZmD(w:World)(c:Array Value)(t:TypeId)(m k:Nat)(v:Value):
 ((w.alloc (.cells c t)).drewN m).setCell ⟨w.heap.size,k,none⟩ v=(w.alloc (.cells (c.setIfInBounds k v) t)).drewN m:=by
 show ((w.alloc (.cells c t)).setCell ⟨w.heap.size,k,none⟩ v).drewN m=_
 rw [World.setCell_alloc_at _ _ _ _ _ rfl]
theorem Zd7{xs ys:List Int}(hl:xs.length=ys.length)(h:∀j,j<xs.length->nth xs j=nth ys j):xs=ys:=by
 apply List.ext_getElem hl
 intro i h1 h2
 have:=h i h1
 simpa [nth,List.getD,h1,h2] using this
end Go.Proofs.YtaaagmgglolibaaGreat
