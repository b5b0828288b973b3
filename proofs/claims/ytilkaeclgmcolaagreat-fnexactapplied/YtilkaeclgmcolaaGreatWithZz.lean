import Derived.Test.YtilkaeclgmcolaaGreatNearZz
import Derived.Test.YtilkaeclgmcolaaGreatMRowZz
import Derived.Test.YtilkaeclgmcolaaGreatMSizeZz
namespace Go.Proofs.YtilkaeclgmcolaaGreat
open Go Go.RowKit
theorem ZlA{ss:List Ht}{k:Nat}(hk:k<ss.length):ss.take (k+1)=ss.take k++[Zx ss k]:=by
 rw [List.take_add_one];congr 1;simp [Zx,List.getD,hk]
theorem ZT.snoc{base:Nat}{w':World}{gg cc:Nat}{hs:List Ht}{x:Ht}(h:w'.ownsRow base 227 2 (.slice (some ⟨gg,0,none⟩) (hs.length+1) cc) (hs.length+1) (Zn hs++[.int .i64 x.1,.int .i64 x.2])):ZT base w' gg cc (hs++[x]):=
 ZT.of h (by simp) (by rw [Zak];rfl)
theorem Ze6{w:World}{n:Nat}{x:Int}(hb:w.heap[n]? =some (.cells #[.int .i64 x] 2 (0,0))):ZX w 1 (some ⟨n,0,none⟩) 1 [.int .i64 x]:=
 ⟨rfl,by simp [Value.oneCell'],Or.inr ⟨_,rfl,World.news_of_block (cs:=#[.int .i64 x]) hb⟩⟩
theorem Row.snoc{base:Nat}{w':World}{gg cc:Nat}{xs:List Int}{x:Int}(h:w'.ownsRow base 2 1 (.slice (some ⟨gg,0,none⟩) (xs.length+1) cc) (xs.length+1) (xs.map (Value.int .i64)++[.int .i64 x])):Row base w' gg cc (xs++[x]):=by
 unfold Row;rw [List.length_append,List.length_singleton,List.map_append];exact h
theorem Row.keptBy{base:Nat}{w w':World}{g c:Nat}{r:Option Nat}{xs:List Int}(h:Row base w g c xs)(hg:w.grownBy w' r)(hr:some g≠r):Row base w' g c xs:=
 World.ownsRow.kept h hg (Or.inr hr)
theorem Row.start(w:World)(base:Nat)(hb:base<=w.heap.size):Row base (w.alloc (.cells #[] 2)) w.heap.size 0 []:=World.ownsRow_lit w #[] 0 hb (Nat.zero_le _) rfl
theorem ZjV(l:List Ht)(k:Nat)(x:Ht):((Zn l).set (k*2) (.int .i64 x.1)).set (k*2+1) (.int .i64 x.2)=Zn (l.set k x):=by
 induction l generalizing k with
 | nil=>simp [Zn]
 | cons d ds ih=>
   cases k with
   | zero=>rfl
   | succ k=>
     rw [show (k+1)*2=k*2+1+1 by omega]
     simp only [Zn,List.set_cons_succ,ih]
theorem ZjW(n:Nat):Zn (List.replicate n (0,0))=List.replicate (n*2) (.int .i64 0):=by
 induction n with
 | zero=>rfl
 | succ n ih=>rw [show (n+1)*2=n*2+1+1 by omega];simp [List.replicate_succ,Zn,ih]
theorem ZT.store{base:Nat}{w:World}{g c:Nat}{l:List Ht}(h:ZT base w g c l)(k:Nat)(x:Ht):
 ZT base ((w.setCell ⟨g,k*2,none⟩ (.int .i64 x.1)).setCell ⟨g,k*2+1,none⟩ (.int .i64 x.2)) g c (l.set k x):=by
 have b:=(World.ownsRow.stored h (k*2) (.int .i64 x.1)).1
 have a:=(World.ownsRow.stored b (k*2+1) (.int .i64 x.2)).1
 rw [ZjV] at a
 unfold ZT
 rw [List.length_set]
 exact a
def ZcE(hs:List Ht)(k:Nat):List Ht:=hs.take k++List.replicate (hs.length-k) (0,0)
theorem Zhg(hs:List Ht)(k:Nat)(h:k<=hs.length):(ZcE hs k).length=hs.length:=by simp [ZcE];omega
theorem Zjr(hs:List Ht):ZcE hs 0=List.replicate hs.length (0,0):=by simp [ZcE]
theorem Zk3(hs:List Ht):ZcE hs hs.length=hs:=by simp [ZcE]
theorem Zk2(hs:List Ht)(k:Nat)(h:k<hs.length):(ZcE hs k).set k (Zx hs k)=ZcE hs (k+1):=by
 unfold ZcE
 rw [List.set_append_right _ _ (by simp;omega),ZlA h,show (hs.take k).length=k by simp;omega,Nat.sub_self]
 rw [show hs.length-k=(hs.length-(k+1))+1 by omega,List.replicate_succ,List.set_cons_zero]
 simp
theorem Znv(n:Nat):(madeCells #[.int .i64 0,.int .i64 0] (n*2)).toList=Zn (List.replicate n (0,0)):=by
 rw [ZjW]
 apply List.ext_getElem
 · simp [size_madeCells]
 · intro i b c
   have a:i % 2=0\/i % 2=1:=by omega
   rcases a with h | h <;> simp [madeCells,h]
theorem ZT.made(w:World)(n:Nat)(hn:n<=maxLen):ZT w.heap.size (w.alloc (.cells (madeCells #[.int .i64 0,.int .i64 0] (n*2)) 227)) w.heap.size n (List.replicate n (0,0)):=by
 have h:=World.ownsRow_lit (base:=w.heap.size) (e:=227) (size:=2) w (madeCells #[.int .i64 0,.int .i64 0] (n*2)) n (Nat.le_refl _) hn (size_madeCells _ _)
 rw [Znv] at h
 exact ZT.of h (by simp) rfl
end Go.Proofs.YtilkaeclgmcolaaGreat
