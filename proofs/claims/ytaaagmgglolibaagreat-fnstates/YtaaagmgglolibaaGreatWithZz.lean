import Derived.Test.YtaaagmgglolibaaGreatNearZz
import Derived.Test.YtaaagmgglolibaaGreatMRowZz
import Derived.Test.YtaaagmgglolibaaGreatMSizeZz
namespace Go.Proofs.YtaaagmgglolibaaGreat
open Go Go.RowKit
theorem ZkS{ss:List Ht}{k:Nat}(hk:k<ss.length):ss.take (k+1)=ss.take k++[Zr ss k]:=by
 rw [List.take_add_one];congr 1;simp [Zr,List.getD,hk]
theorem ZN.snoc{base:Nat}{w':World}{gg cc:Nat}{hs:List Ht}{x:Ht}(h:w'.ownsRow base 66 2 (.slice (some ⟨gg,0,none⟩) (hs.length+1) cc) (hs.length+1) (Zm hs++[.int .i64 x.1,.int .i64 x.2])):ZN base w' gg cc (hs++[x]):=
 ZN.of h (by simp) (by rw [Zal];rfl)
theorem ZeI{w:World}{n:Nat}{x:Int}(hb:w.heap[n]? =some (.cells #[.int .i64 x] 2 (0,0))):ZV w 1 (some ⟨n,0,none⟩) 1 [.int .i64 x]:=
 ⟨rfl,by simp [Value.oneCell'],Or.inr ⟨_,rfl,World.news_of_block (cs:=#[.int .i64 x]) hb⟩⟩
theorem Row.snoc{base:Nat}{w':World}{gg cc:Nat}{xs:List Int}{x:Int}(h:w'.ownsRow base 2 1 (.slice (some ⟨gg,0,none⟩) (xs.length+1) cc) (xs.length+1) (xs.map (Value.int .i64)++[.int .i64 x])):Row base w' gg cc (xs++[x]):=by
 unfold Row;rw [List.length_append,List.length_singleton,List.map_append];exact h
theorem Row.keptBy{base:Nat}{w w':World}{g c:Nat}{r:Option Nat}{xs:List Int}(h:Row base w g c xs)(hg:w.grownBy w' r)(hr:some g≠r):Row base w' g c xs:=
 World.ownsRow.kept h hg (Or.inr hr)
theorem Row.start(w:World)(base:Nat)(hb:base<=w.heap.size):Row base (w.alloc (.cells #[] 2)) w.heap.size 0 []:=World.ownsRow_lit w #[] 0 hb (Nat.zero_le _) rfl
theorem Zjc(l:List Ht)(k:Nat)(x:Ht):((Zm l).set (k*2) (.int .i64 x.1)).set (k*2+1) (.int .i64 x.2)=Zm (l.set k x):=by
 induction l generalizing k with
 | nil=>simp [Zm]
 | cons d ds ih=>
   cases k with
   | zero=>rfl
   | succ k=>
     rw [show (k+1)*2=k*2+1+1 by omega]
     simp only [Zm,List.set_cons_succ,ih]
theorem Zjd(n:Nat):Zm (List.replicate n (0,0))=List.replicate (n*2) (.int .i64 0):=by
 induction n with
 | zero=>rfl
 | succ n ih=>rw [show (n+1)*2=n*2+1+1 by omega];simp [List.replicate_succ,Zm,ih]
theorem ZN.store{base:Nat}{w:World}{g c:Nat}{l:List Ht}(h:ZN base w g c l)(k:Nat)(x:Ht):
 ZN base ((w.setCell ⟨g,k*2,none⟩ (.int .i64 x.1)).setCell ⟨g,k*2+1,none⟩ (.int .i64 x.2)) g c (l.set k x):=by
 have h1:=(World.ownsRow.stored h (k*2) (.int .i64 x.1)).1
 have h2:=(World.ownsRow.stored h1 (k*2+1) (.int .i64 x.2)).1
 rw [Zjc] at h2
 unfold ZN
 rw [List.length_set]
 exact h2
def Zcs(hs:List Ht)(k:Nat):List Ht:=hs.take k++List.replicate (hs.length-k) (0,0)
theorem ZgI(hs:List Ht)(k:Nat)(h:k<=hs.length):(Zcs hs k).length=hs.length:=by simp [Zcs];omega
theorem ZiE(hs:List Ht):Zcs hs 0=List.replicate hs.length (0,0):=by simp [Zcs]
theorem Zkd(hs:List Ht):Zcs hs hs.length=hs:=by simp [Zcs]
theorem Zkc(hs:List Ht)(k:Nat)(h:k<hs.length):(Zcs hs k).set k (Zr hs k)=Zcs hs (k+1):=by
 unfold Zcs
 rw [List.set_append_right _ _ (by simp;omega),ZkS h,show (hs.take k).length=k by simp;omega,Nat.sub_self]
 rw [show hs.length-k=(hs.length-(k+1))+1 by omega,List.replicate_succ,List.set_cons_zero]
 simp
theorem Zmz(n:Nat):(madeCells #[.int .i64 0,.int .i64 0] (n*2)).toList=Zm (List.replicate n (0,0)):=by
 rw [Zjd]
 apply List.ext_getElem
 · simp [size_madeCells]
 · intro i h1 h2
   have hm:i % 2=0\/i % 2=1:=by omega
   rcases hm with h | h <;> simp [madeCells,h]
theorem ZN.made(w:World)(n:Nat)(hn:n<=maxLen):ZN w.heap.size (w.alloc (.cells (madeCells #[.int .i64 0,.int .i64 0] (n*2)) 66)) w.heap.size n (List.replicate n (0,0)):=by
 have h:=World.ownsRow_lit (base:=w.heap.size) (e:=66) (size:=2) w (madeCells #[.int .i64 0,.int .i64 0] (n*2)) n (Nat.le_refl _) hn (size_madeCells _ _)
 rw [Zmz] at h
 exact ZN.of h (by simp) rfl
end Go.Proofs.YtaaagmgglolibaaGreat
