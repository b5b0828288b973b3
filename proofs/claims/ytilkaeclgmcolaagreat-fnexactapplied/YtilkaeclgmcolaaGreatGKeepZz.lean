import Derived.Test.YtilkaeclgmcolaaGreatBMarkZz
import Derived.Test.YtilkaeclgmcolaaGreatMMarkZz
namespace Go.Proofs.YtilkaeclgmcolaaGreat
open Go Go.RowKit
theorem ZQ.same{base:Nat}{w w':World}{g c:Nat}{xs:List Int}(h:ZQ base w g c xs)(e:w'.heap[g]? =w.heap[g]?):ZQ base w' g c xs:=by
 obtain⟨d,a⟩:=h
 refine⟨d,?_⟩
 rcases a with a | ⟨g',cp,cur,e1,h3,h4,h5⟩
 · exact Or.inl a
 · have b:g=g':=by injection e1 with e2;injection e2 with e2;injection e2
   subst b
   exact Or.inr ⟨g,cp,cur,e1,h3,e.trans h4,h5⟩
theorem Tryz.infoL:(Tryz.prog.info? 31).map (fun i=>(i.zero,i.size,i.bytes))=some (some (.slice none 0 0),1,24):=by kernel_rfl
abbrev Rw:=Nat×Nat×List Int
def rwV(r:Rw):Value:=.slice (some ⟨r.1,0,none⟩) r.2.2.length r.2.1
def Zdu(base:Nat)(w:World)(g c:Nat)(rs:List Rw):Prop:=w.ownsRow base 31 1 (.slice (some ⟨g,0,none⟩) rs.length c) rs.length (rs.map rwV)
structure Zba(base:Nat)(w:World)(g c:Nat)(rs:List Rw):Prop where
 row:Zdu base w g c rs
 rows:∀r∈rs,ZQ base w r.1 r.2.1 r.2.2
 apart:(rs.map (·.1)).Nodup
 off:∀r∈rs,r.1≠g
def Zbw(rs:List Rw):List (List Int):=rs.map (·.2.2)
theorem Zdu.lt{base:Nat}{w:World}{g c:Nat}{rs:List Rw}(h:Zdu base w g c rs):base<=g/\g<w.heap.size:=World.ownsRow.lt h g rfl
theorem Zdu.cell{base:Nat}{w:World}{g c:Nat}{rs:List Rw}(h:Zdu base w g c rs)(i:Nat)(hi:i<rs.length):w.cell? ⟨g,i,none⟩=some (rwV rs[i]):=by
 rw [World.ownsRow.cellAt h i (by omega)]
 simp [hi]
theorem Zdu.kept{base:Nat}{w w':World}{g c:Nat}{r:Option Nat}{rs:List Rw}(h:Zdu base w g c rs)(hg:w.grownBy w' r)(hr:some g≠r):Zdu base w' g c rs:=World.ownsRow.kept h hg (Or.inr hr)
theorem Zba.kept{base:Nat}{w w':World}{g c:Nat}{r:Option Nat}{rs:List Rw}(h:Zba base w g c rs)(hg:w.grownBy w' r)(h1:some g≠r)(h2:∀x∈rs,some x.1≠r):Zba base w' g c rs:=
 ⟨h.row.kept hg h1,fun x hx=>(h.rows x hx).kept hg (h2 x hx),h.apart,h.off⟩
theorem Zba.below{base:Nat}{w w':World}{g c:Nat}{rs:List Rw}(h:Zba base w g c rs)(hb:Below w.heap.size w w'):Zba base w' g c rs:=
 h.kept (r:=none) ⟨hb.os,hb.tape,hb.output,hb.size,fun i hi _=>hb.block i hi⟩ (by simp) (by simp)
theorem Zba.snoc{base:Nat}{w w8:World}{g c gg cc:Nat}{rs:List Rw}{r:Rw}(h:Zba base w g c rs)(hown:w8.ownsRow base 31 1 (.slice (some ⟨gg,0,none⟩) (rs.length+1) cc) (rs.length+1) (rs.map rwV++[rwV r]))
 (hgrow:w.grownBy w8 (some g)) (hat:g=gg\/gg=w.heap.size) (hr:ZQ base w r.1 r.2.1 r.2.2) (hrg:r.1≠g) (hnew:∀x∈rs,x.1≠r.1):Zba base w8 gg cc (rs++[r]):=by
 have e:∀x∈rs,base<=x.1/\x.1<w.heap.size:=fun x d=>(h.rows x d).lt
 refine⟨?_,fun x d=>?_,?_,fun x d=>?_⟩
 · unfold Zdu
   rw [List.length_append,List.length_singleton,List.map_append]
   exact hown
 · rcases List.mem_append.1 d with d | d
   · exact (h.rows x d).kept hgrow (by have:=h.off x d;simp;exact this)
   · rw [List.mem_singleton.1 d]
     exact hr.kept hgrow (by simp;exact hrg)
 · rw [List.map_append,List.nodup_append]
   refine⟨h.apart,by simp,fun a i b f=>?_⟩
   obtain⟨x,d,rfl⟩:=List.mem_map.1 i
   simp at f
   rw [f]
   exact hnew x d
 · rcases hat with h1 | h1
   · rw [<-h1]
     rcases List.mem_append.1 d with d | d
     · exact h.off x d
     · rw [List.mem_singleton.1 d];exact hrg
   · rcases List.mem_append.1 d with d | d
     · have:=e x d;omega
     · rw [List.mem_singleton.1 d];have:=hr.lt;omega
def Zmu(w:World)(ao:Option Addr)(ls:List (List Int)):Prop:=ls=[]\/∃b,ao=some ⟨b,0,none⟩/\b<w.heap.size/\∀i (h:i<ls.length),∃a c,w.cell? ⟨b,i,none⟩=some (.slice a ls[i].length c)/\Zy w a ls[i]
theorem Zba.view{base:Nat}{w:World}{g c:Nat}{rs:List Rw}(h:Zba base w g c rs):Zmu w (some ⟨g,0,none⟩) (Zbw rs):=by
 refine Or.inr ⟨g,rfl,h.row.lt.2,fun i b=>?_⟩
 have a:i<rs.length:=by simpa [Zbw] using b
 have e:(Zbw rs)[i]=rs[i].2.2:=by simp [Zbw]
 rw [e]
 exact⟨_,_,h.row.cell i a,(h.rows _ (List.getElem_mem a)).view⟩
theorem Zh3(rs:List Rw):(Zbw rs).length=rs.length:=by simp [Zbw]
theorem Zdu.same{base:Nat}{w w':World}{g c:Nat}{rs:List Rw}(h:Zdu base w g c rs)(e:w'.heap[g]? =w.heap[g]?):Zdu base w' g c rs:=by
 obtain⟨d,a⟩:=h
 refine⟨d,?_⟩
 rcases a with a | ⟨g',cp,cur,e1,h3,h4,h5⟩
 · exact Or.inl a
 · have b:g=g':=by injection e1 with e2;injection e2 with e2;injection e2
   subst b
   exact Or.inr ⟨g,cp,cur,e1,h3,e.trans h4,h5⟩
theorem Zba.same{base:Nat}{w w':World}{g c:Nat}{rs:List Rw}(h:Zba base w g c rs)(e:∀i,(i=g\/∃r∈rs,i=r.1)->w'.heap[i]? =w.heap[i]?):Zba base w' g c rs:=
 ⟨h.row.same (e g (Or.inl rfl)),fun x hx=>(h.rows x hx).same (e x.1 (Or.inr ⟨x,hx,rfl⟩)),h.apart,h.off⟩
theorem Zba.all{base:Nat}{w:World}{g c:Nat}{rs:List Rw}(h:Zba base w g c rs):∀i,(i=g\/∃r∈rs,i=r.1)->base<=i/\i<w.heap.size:=fun i hi=>by
 rcases hi with rfl | ⟨r,hr,rfl⟩
 · exact h.row.lt
 · exact (h.rows r hr).lt
end Go.Proofs.YtilkaeclgmcolaaGreat
