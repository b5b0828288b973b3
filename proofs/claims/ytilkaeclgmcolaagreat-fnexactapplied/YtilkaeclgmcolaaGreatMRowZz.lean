import Derived.Test.YtilkaeclgmcolaaGreatMovedSZz
import Derived.Test.YtilkaeclgmcolaaGreatMCellsZz
namespace Go.Proofs.YtilkaeclgmcolaaGreat
open Go Go.RowKit
abbrev Dm:=Int×Nat×Nat×List Int
def ZG:List Dm->List Value
 | []=>[]
 | d::ds=>.int .i64 d.1::.slice (some ⟨d.2.1,0,none⟩) d.2.2.2.length d.2.2.1::ZG ds
def Zs(ds:List Dm):List Mk:=ds.map fun d=>(d.1,d.2.2.2)
def Zu(ds:List Dm)(i:Nat):Dm:=ds.getD i (0,0,0,[])
def Z2(base:Nat)(w:World)(g c:Nat)(ds:List Dm):Prop:=
 w.ownsRow base 161 2 (.slice (some ⟨g,0,none⟩) ds.length c) ds.length (ZG ds)/\(∀d∈ds,Row base w d.2.1 d.2.2.1 d.2.2.2/\d.2.1≠g)/\ds.Pairwise (fun d e=>d.2.1<e.2.1)
theorem Zcw(ds:List Dm):(ZG ds).length=ds.length*2:=by
 induction ds with
 | nil=>rfl
 | cons d ds ih=>simp [ZG,ih];omega
theorem Za2(ds es:List Dm):ZG (ds++es)=ZG ds++ZG es:=by
 induction ds with
 | nil=>rfl
 | cons d ds ih=>simp [ZG,ih]
theorem Zcz(ds:List Dm)(i:Nat)(h:i<ds.length):(ZG ds)[i*2]? =some (.int .i64 (Zu ds i).1)/\(ZG ds)[i*2+1]? =some (.slice (some ⟨(Zu ds i).2.1,0,none⟩) (Zu ds i).2.2.2.length (Zu ds i).2.2.1):=by
 induction ds generalizing i with
 | nil=>simp at h
 | cons d ds ih=>
   match i,h with
   | 0,_=>exact⟨rfl,rfl⟩
   | k+1,h=>
     have:=ih k (by simpa using h)
     rw [show (k+1)*2=k*2+1+1 by omega]
     exact this
theorem ZgJ(ds:List Dm)(i:Nat)(h:i<ds.length):Zu ds i∈ds:=by
 simp [Zu,List.getD,h]
theorem ZI(ds:List Dm):(Zs ds).length=ds.length:=by simp [Zs]
theorem Zb8(ds:List Dm)(i:Nat)(h:i<ds.length):ZJ (Zs ds) i=((Zu ds i).1,(Zu ds i).2.2.2):=by
 simp [ZJ,Zs,Zu,List.getD,h]
theorem Row.seg{base:Nat}{w:World}{g c:Nat}{xs:List Int}(h:Row base w g c xs):Seg w g 0 xs:=fun i hi=>by
 rw [Nat.zero_add,World.ownsRow.cellAt h i (by omega)]
 simp [nth,List.getD,hi]
theorem Row.lt2{base:Nat}{w:World}{g c:Nat}{xs:List Int}(h:Row base w g c xs):base<=g/\g<w.heap.size:=World.ownsRow.lt h g rfl
theorem Z2.cells{base:Nat}{w:World}{g c:Nat}{ds:List Dm}(h:Z2 base w g c ds)(i:Nat)(hi:i<ds.length):
 w.cell? ⟨g,i*2,none⟩=some (.int .i64 (Zu ds i).1)/\w.cell? ⟨g,i*2+1,none⟩=some (.slice (some ⟨(Zu ds i).2.1,0,none⟩) (Zu ds i).2.2.2.length (Zu ds i).2.2.1):=by
 have:=Zcz ds i hi
 rw [World.ownsRow.cellAt h.1 _ (by omega),World.ownsRow.cellAt h.1 _ (by omega)]
 exact this
theorem Z2.lt{base:Nat}{w:World}{g c:Nat}{ds:List Dm}(h:Z2 base w g c ds):base<=g/\g<w.heap.size:=World.ownsRow.lt h.1 g rfl
theorem Z2.cap{base:Nat}{w:World}{g c:Nat}{ds:List Dm}(h:Z2 base w g c ds):ds.length<=c:=by
 obtain⟨_,⟨a,_⟩ | ⟨e,d,b,a,_,_,f,_⟩⟩:=h.1
 · cases a
 · injection a with e1 e2 e3
   omega
theorem Z2.view{base:Nat}{w:World}{g c:Nat}{ds:List Dm}(h:Z2 base w g c ds):Zo w (some ⟨g,0,none⟩) (Zs ds):=
 Or.inr ⟨g,0,rfl,h.lt.2,fun i hi=>by
  rw [ZI] at hi
  rw [Nat.zero_add,Zb8 ds i hi]
  have:=h.cells i hi
  exact⟨this.1,_,_,this.2,(h.2.1 _ (ZgJ ds i hi)).1.view⟩⟩
theorem Z2.kept{base:Nat}{w w':World}{g c:Nat}{r:Option Nat}{ds:List Dm}(h:Z2 base w g c ds)(hg:w.grownBy w' r)(hr:∀q,r=some q->q<base):Z2 base w' g c ds:=by
 refine⟨World.ownsRow.kept h.1 hg (Or.inr ?_),fun d a=>⟨World.ownsRow.kept (h.2.1 d a).1 hg (Or.inr ?_),(h.2.1 d a).2⟩,h.2.2⟩
 · intro e
   have:=hr g (by rw [<-e];rfl)
   have:=h.lt
   omega
 · intro e
   have:=hr d.2.1 (by rw [<-e];rfl)
   have:=(h.2.1 d a).1.lt2
   omega
theorem Z2.start(w:World)(base:Nat)(hb:base<=w.heap.size):Z2 base (w.alloc (.cells #[] 161)) w.heap.size 0 []:=
 ⟨World.ownsRow_lit w #[] 0 hb (Nat.zero_le _) rfl,fun d hd=>(by cases hd),List.Pairwise.nil⟩
theorem Z2.snoc{base:Nat}{w w':World}{g c gg cc b cp:Nat}{id:Int}{xs:List Int}{ds:List Dm}(h:Z2 base w g c ds)
 (hrow:Row base w b cp xs) (hbg:b≠g) (hlast:∀d∈ds,d.2.1<b)
 (hown:w'.ownsRow base 161 2 (.slice (some ⟨gg,0,none⟩) (ds.length+1) cc) (ds.length+1) (ZG ds++[.int .i64 id,.slice (some ⟨b,0,none⟩) xs.length cp]))
 (hg:w.grownBy w' (some g)) (hgg:gg=g\/gg=w.heap.size):Z2 base w' gg cc (ds++[(id,b,cp,xs)]):=by
 have f:∀d:Dm,Row base w d.2.1 d.2.2.1 d.2.2.2->d.2.1≠g->Row base w' d.2.1 d.2.2.1 d.2.2.2/\d.2.1≠gg:=fun d a i=>
  ⟨World.ownsRow.kept a hg (Or.inr (by intro e;injection e with e;exact i e)),by
   have:=a.lt2
   rcases hgg with e | e
   · rw [e];exact i
   · rw [e];omega⟩
 refine⟨?_,fun d a=>?_,?_⟩
 · rw [Za2,List.length_append];exact hown
 · rcases List.mem_append.1 a with a | a
   · exact f d (h.2.1 d a).1 (h.2.1 d a).2
   · rw [List.mem_singleton.1 a];exact f (id,b,cp,xs) hrow hbg
 · rw [List.pairwise_append]
   exact⟨h.2.2,by simp,fun d a e j=>by rw [List.mem_singleton.1 j];exact hlast d a⟩
end Go.Proofs.YtilkaeclgmcolaaGreat
