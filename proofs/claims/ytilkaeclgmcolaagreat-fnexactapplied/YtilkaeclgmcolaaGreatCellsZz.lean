import Derived.WalkKit
import Derived.Deep.OwnRows
import Derived.Deep.Draws
import Derived.Test.YtilkaeclgmcolaaGreatMathZz
namespace Go.Proofs.YtilkaeclgmcolaaGreat
open Go Go.RowKit
def Zds(xs:List Int):Array Value:=(xs.map (Value.int .i64)).toArray
def ZbS(g:Nat->Int)(n k:Nat):Array Value:=Zds (ZaE g k++List.replicate (n-k) 0)
def Seg(w:World)(b off:Nat)(xs:List Int):Prop:=∀i,i<xs.length->w.cell? ⟨b,off+i,none⟩=some (.int .i64 (nth xs i))
theorem ZnF(xs:List Int)(i:Nat)(h:i<xs.length):(Zds xs)[i]? =some (.int .i64 (nth xs i)):=by
 simp [Zds,nth,List.getD,h]
theorem ZeI(g:Nat->Int)(n:Nat):ZbS g n 0=madeCells #[.int .i64 0] n:=by
 apply Array.ext
 · simp [ZbS,Zds,madeCells,ZaE]
 · intro i a b
   simp [ZbS,Zds,madeCells,ZaE,Nat.mod_one]
theorem ZeJ(g:Nat->Int)(n k:Nat)(h:k<n):(ZbS g n k)[k]? =some (.int .i64 0):=by
 unfold ZbS Zds
 rw [List.getElem?_toArray,List.getElem?_map,List.getElem?_append_right (by rw [ZE];exact Nat.le_refl _),ZE,Nat.sub_self,List.getElem?_replicate,if_pos (by omega)]
 rfl
theorem Zfn(g:Nat->Int)(n k:Nat)(h:k<n):(ZbS g n k).setIfInBounds k (.int .i64 (g k))=ZbS g n (k+1):=by
 apply Array.ext_getElem?
 intro j
 simp only [ZbS,Zds,List.setIfInBounds_toArray,List.getElem?_toArray,Zgj]
 rw [List.getElem?_set]
 by_cases hj:k=j
 · subst hj
   rw [if_pos rfl,if_pos (by simp [ZE];omega),List.getElem?_map,List.append_assoc,List.getElem?_append_right (by rw [ZE];exact Nat.le_refl _),ZE,Nat.sub_self]
   rfl
 · rw [if_neg hj,List.getElem?_map,List.getElem?_map,List.append_assoc]
   by_cases hlt:j<k
   · rw [List.getElem?_append_left (by rw [ZE];exact hlt),List.getElem?_append_left (by rw [ZE];exact hlt)]
   · rw [List.getElem?_append_right (by rw [ZE];omega),List.getElem?_append_right (by rw [ZE];omega),ZE,List.getElem?_append_right (by simp;omega)]
     simp only [List.length_cons,List.length_nil,List.getElem?_replicate]
     by_cases hjn:j<n
     · rw [if_pos (by omega),if_pos (by omega)]
     · rw [if_neg (by omega),if_neg (by omega)]
theorem Zfo(g:Nat->Int)(n:Nat):ZbS g n n=Zds (ZaE g n):=by simp [ZbS]
theorem ZkA(xs:List Int):ZaE (nth xs) xs.length=xs:=by
 apply List.ext_getElem
 · simp [ZaE]
 · intro i b a;simp [ZaE,nth,List.getD,a]
theorem Seg.alloc{w:World}{b off:Nat}{xs:List Int}(h:Seg w b off xs)(hb:b<w.heap.size)(o:Obj):Seg (w.alloc o) b off xs:=fun i hi=>by
 rw [World.cell?_alloc_past _ _ _ hb];exact h i hi
theorem Seg.below{w w':World}{B b off:Nat}{xs:List Int}(h:Seg w b off xs)(hb:b<B)(hw:Below B w w'):Seg w' b off xs:=fun i hi=>
 (hw.cell (p:=⟨b,off+i,none⟩) hb).trans (h i hi)
theorem Seg.at{w:World}{b:Nat}{xs:List Int}(h:Seg w b 0 xs)(i:Nat)(hi:i<xs.length):w.cell? ⟨b,i,none⟩=some (.int .i64 (nth xs i)):=by
 have:=h i hi;rwa [Nat.zero_add] at this
def Own(w:World)(b:Nat)(xs:List Int):Prop:=w.heap[b]? =some (.cells (Zds xs) 2)
theorem Own.lt{w:World}{b:Nat}{xs:List Int}(h:Own w b xs):b<w.heap.size:=by
 rcases Nat.lt_or_ge b w.heap.size with h1 | h1
 · exact h1
 · unfold Own at h;rw [Array.getElem?_eq_none h1] at h;cases h
theorem Own.cell{w:World}{b:Nat}{xs:List Int}(h:Own w b xs)(i:Nat):w.cell? ⟨b,i,none⟩=(Zds xs)[i]? :=by
 unfold Own at h;simp [World.cell?,h]
theorem Own.seg{w:World}{b:Nat}{xs:List Int}(h:Own w b xs):Seg w b 0 xs:=fun i hi=>by
 rw [Nat.zero_add,h.cell];exact ZnF xs i hi
theorem Own.new(w:World)(xs:List Int):Own (w.alloc (.cells (Zds xs) 2)) w.heap.size xs:=by
 show (w.heap.push _)[w.heap.size]? =_
 simp
theorem Own.below{w w':World}{B b:Nat}{xs:List Int}(h:Own w b xs)(hb:b<B)(hw:Below B w w'):Own w' b xs:=(hw.block b hb).trans h
theorem Own.drewN{w:World}{b:Nat}{xs:List Int}(h:Own w b xs)(n:Nat):Own (w.drewN n) b xs:=h
theorem Seg.drewN{w:World}{b off:Nat}{xs:List Int}(h:Seg w b off xs)(n:Nat):Seg (w.drewN n) b off xs:=h
def Zy(w:World)(ao:Option Addr)(xs:List Int):Prop:=xs=[]\/∃b off,ao=some ⟨b,off,none⟩/\b<w.heap.size/\Seg w b off xs
theorem Own.view{w:World}{b:Nat}{xs:List Int}(h:Own w b xs):Zy w (some ⟨b,0,none⟩) xs:=Or.inr ⟨b,0,rfl,h.lt,h.seg⟩
theorem Zy.below{w w':World}{B:Nat}{ao:Option Addr}{xs:List Int}(h:Zy w ao xs)(hB:w.heap.size<=B)(hw:Below B w w'):Zy w' ao xs:=by
 rcases h with h | ⟨b,off,e,hb,hs⟩
 · exact Or.inl h
 · exact Or.inr ⟨b,off,e,Nat.lt_of_lt_of_le hb hw.size,hs.below (Nat.lt_of_lt_of_le hb hB) hw⟩
theorem Zy.drewN{w:World}{ao:Option Addr}{xs:List Int}(h:Zy w ao xs)(n:Nat):Zy (w.drewN n) ao xs:=h
theorem ZnG(w:World)(c:Array Value)(t:TypeId)(m k:Nat)(v:Value):
 ((w.alloc (.cells c t)).drewN m).setCell ⟨w.heap.size,k,none⟩ v=(w.alloc (.cells (c.setIfInBounds k v) t)).drewN m:=by
 show ((w.alloc (.cells c t)).setCell ⟨w.heap.size,k,none⟩ v).drewN m=_
 rw [World.setCell_alloc_at _ _ _ _ _ rfl]
theorem Zeh{xs ys:List Int}(hl:xs.length=ys.length)(h:∀j,j<xs.length->nth xs j=nth ys j):xs=ys:=by
 apply List.ext_getElem hl
 intro i a b
 have:=h i a
 simpa [nth,List.getD,a,b] using this
theorem balZ {w W : World} {o : Obj} (h : w.alloc o = W) : Below w.heap.size w W := by rw [← h]; exact (Below.refl _ _).alloc (Nat.le_refl _) _
theorem salZ {w W : World} {o : Obj} (h : w.alloc o = W) : W.heap.size = w.heap.size + 1 := by rw [← h]; simp
theorem nalZ {w W : World} {o : Obj} (h : w.alloc o = W) : W.heap[w.heap.size]? = some o := by rw [← h]; show (w.heap.push o)[w.heap.size]? = some o; simp
theorem nal2Z {w W : World} {o : Obj} {q : Nat} (h : w.alloc o = W) (e : w.heap.size = q) : W.heap[q]? = some o := by rw [← e]; exact nalZ h
theorem altZ {w W : World} {o : Obj} (h : w.alloc o = W) : w.heap.size < W.heap.size := by rw [← h]; simp
theorem n0Z (k : Nat) : (0 : Int) ≤ (k : Int) := Int.natCast_nonneg _
theorem aw2Z {w W1 W : World} {a b : Obj} (h1 : w.alloc a = W1) (h2 : W1.alloc b = W) : (w.alloc a).alloc b = W := by rw [h1, h2]
theorem aw3Z {w W1 W2 W : World} {a b c : Obj} (h1 : w.alloc a = W1) (h2 : W1.alloc b = W2) (h3 : W2.alloc c = W) : ((w.alloc a).alloc b).alloc c = W := by rw [h1, h2, h3]
theorem tkgZ : (∀ (l : List Oper) (i : Nat) (h : i < l.toArray.size), l.toArray[i]'h = l[i]'(by simpa using h)) ∧ (∀ (a : Oper) (l : List Oper) (h : 0 < (a :: l).length), (a :: l)[0]'h = a) ∧ (∀ (a : Oper) (l : List Oper) (i : Nat) (h : i + 1 < (a :: l).length), (a :: l)[i + 1]'h = l[i]'(by simpa using h)) ∧ (∀ (l : List Value) (i : Nat) (v : Value), l.toArray.setIfInBounds i v = (l.set i v).toArray) ∧ (∀ (l : List Bool) (i : Nat) (v : Bool), l.toArray.setIfInBounds i v = (l.set i v).toArray) ∧ (∀ (a v : Value) (l : List Value), (a :: l).set 0 v = v :: l) ∧ ∀ (a v : Value) (l : List Value) (i : Nat), (a :: l).set (i + 1) v = a :: l.set i v :=
  ⟨fun _ _ _ => List.getElem_toArray .., fun _ _ _ => rfl, fun _ _ _ _ => rfl, fun _ _ _ => List.setIfInBounds_toArray .., fun _ _ _ => List.setIfInBounds_toArray .., fun _ _ _ => rfl, fun _ _ _ _ => rfl⟩
end Go.Proofs.YtilkaeclgmcolaaGreat
