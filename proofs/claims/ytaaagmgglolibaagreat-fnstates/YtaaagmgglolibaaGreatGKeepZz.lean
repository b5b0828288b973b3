import Derived.Test.YtaaagmgglolibaaGreatBMarkZz
import Derived.Test.YtaaagmgglolibaaGreatMMarkZz
namespace Go.Proofs.YtaaagmgglolibaaGreat
open Go Go.RowKit
theorem ZF.same{base:Nat}{w w':World}{g c:Nat}{xs:List Int}(h:ZF base w g c xs)(e:w'.heap[g]? =w.heap[g]?):ZF base w' g c xs:=by
 obtain⟨h1,h2⟩:=h
 refine⟨h1,?_⟩
 rcases h2 with h2 | ⟨g',cp,cur,e1,h3,h4,h5⟩
 · exact Or.inl h2
 · have hg:g=g':=by injection e1 with e2;injection e2 with e2;injection e2
   subst hg
   exact Or.inr ⟨g,cp,cur,e1,h3,e.trans h4,h5⟩
theorem Tryz.infoL:(Tryz.prog.info? 27).map (fun i=>(i.zero,i.size,i.bytes))=some (some (.slice none 0 0),1,24):=by kernel_rfl
abbrev Rw:=Nat×Nat×List Int
def rwV(r:Rw):Value:=.slice (some ⟨r.1,0,none⟩) r.2.2.length r.2.1
def Zdf(base:Nat)(w:World)(g c:Nat)(rs:List Rw):Prop:=w.ownsRow base 27 1 (.slice (some ⟨g,0,none⟩) rs.length c) rs.length (rs.map rwV)
structure ZaP(base:Nat)(w:World)(g c:Nat)(rs:List Rw):Prop where
 row:Zdf base w g c rs
 rows:∀r∈rs,ZF base w r.1 r.2.1 r.2.2
 apart:(rs.map (·.1)).Nodup
 off:∀r∈rs,r.1≠g
def ZaJ(rs:List Rw):List (List Int):=rs.map (·.2.2)
theorem Zdf.lt{base:Nat}{w:World}{g c:Nat}{rs:List Rw}(h:Zdf base w g c rs):base<=g/\g<w.heap.size:=World.ownsRow.lt h g rfl
theorem Zdf.cell{base:Nat}{w:World}{g c:Nat}{rs:List Rw}(h:Zdf base w g c rs)(i:Nat)(hi:i<rs.length):w.cell? ⟨g,i,none⟩=some (rwV rs[i]):=by
 rw [World.ownsRow.cellAt h i (by omega)]
 simp [hi]
theorem Zdf.kept{base:Nat}{w w':World}{g c:Nat}{r:Option Nat}{rs:List Rw}(h:Zdf base w g c rs)(hg:w.grownBy w' r)(hr:some g≠r):Zdf base w' g c rs:=World.ownsRow.kept h hg (Or.inr hr)
theorem ZaP.kept{base:Nat}{w w':World}{g c:Nat}{r:Option Nat}{rs:List Rw}(h:ZaP base w g c rs)(hg:w.grownBy w' r)(h1:some g≠r)(h2:∀x∈rs,some x.1≠r):ZaP base w' g c rs:=
 ⟨h.row.kept hg h1,fun x hx=>(h.rows x hx).kept hg (h2 x hx),h.apart,h.off⟩
theorem ZaP.below{base:Nat}{w w':World}{g c:Nat}{rs:List Rw}(h:ZaP base w g c rs)(hb:Below w.heap.size w w'):ZaP base w' g c rs:=
 h.kept (r:=none) ⟨hb.os,hb.tape,hb.output,hb.size,fun i hi _=>hb.block i hi⟩ (by simp) (by simp)
theorem ZaP.mono{base base':Nat}{w:World}{g c:Nat}{rs:List Rw}(h:ZaP base w g c rs)(hb:base'<=base):ZaP base' w g c rs:=
 ⟨by
  obtain⟨h1,h2⟩:=h.row
  refine⟨h1,?_⟩
  rcases h2 with h2 | ⟨g',cp,cur,e1,h3,h4⟩
  · exact Or.inl h2
  · exact Or.inr ⟨g',cp,cur,e1,Nat.le_trans hb h3,h4⟩,fun x hx=>(h.rows x hx).mono hb,h.apart,h.off⟩
theorem ZaP.snoc{base:Nat}{w w8:World}{g c gg cc:Nat}{rs:List Rw}{r:Rw}(h:ZaP base w g c rs)(hown:w8.ownsRow base 27 1 (.slice (some ⟨gg,0,none⟩) (rs.length+1) cc) (rs.length+1) (rs.map rwV++[rwV r]))
 (hgrow:w.grownBy w8 (some g)) (hat:g=gg\/gg=w.heap.size) (hr:ZF base w r.1 r.2.1 r.2.2) (hrg:r.1≠g) (hnew:∀x∈rs,x.1≠r.1):ZaP base w8 gg cc (rs++[r]):=by
 have hlt:∀x∈rs,base<=x.1/\x.1<w.heap.size:=fun x hx=>(h.rows x hx).lt
 refine⟨?_,fun x hx=>?_,?_,fun x hx=>?_⟩
 · unfold Zdf
   rw [List.length_append,List.length_singleton,List.map_append]
   exact hown
 · rcases List.mem_append.1 hx with hx | hx
   · exact (h.rows x hx).kept hgrow (by have:=h.off x hx;simp;exact this)
   · rw [List.mem_singleton.1 hx]
     exact hr.kept hgrow (by simp;exact hrg)
 · rw [List.map_append,List.nodup_append]
   refine⟨h.apart,by simp,fun a ha b hb=>?_⟩
   obtain⟨x,hx,rfl⟩:=List.mem_map.1 ha
   simp at hb
   rw [hb]
   exact hnew x hx
 · rcases hat with h1 | h1
   · rw [<-h1]
     rcases List.mem_append.1 hx with hx | hx
     · exact h.off x hx
     · rw [List.mem_singleton.1 hx];exact hrg
   · rcases List.mem_append.1 hx with hx | hx
     · have:=hlt x hx;omega
     · rw [List.mem_singleton.1 hx];have:=hr.lt;omega
def Zls(w:World)(ao:Option Addr)(ls:List (List Int)):Prop:=ls=[]\/∃b,ao=some ⟨b,0,none⟩/\b<w.heap.size/\∀i (h:i<ls.length),∃a c,w.cell? ⟨b,i,none⟩=some (.slice a ls[i].length c)/\Zs w a ls[i]
theorem ZaP.view{base:Nat}{w:World}{g c:Nat}{rs:List Rw}(h:ZaP base w g c rs):Zls w (some ⟨g,0,none⟩) (ZaJ rs):=by
 refine Or.inr ⟨g,rfl,h.row.lt.2,fun i hi=>?_⟩
 have hi2:i<rs.length:=by simpa [ZaJ] using hi
 have e:(ZaJ rs)[i]=rs[i].2.2:=by simp [ZaJ]
 rw [e]
 exact⟨_,_,h.row.cell i hi2,(h.rows _ (List.getElem_mem hi2)).view⟩
theorem Za0(rs:List Rw):(ZaJ rs).length=rs.length:=by simp [ZaJ]
theorem Zdf.same{base:Nat}{w w':World}{g c:Nat}{rs:List Rw}(h:Zdf base w g c rs)(e:w'.heap[g]? =w.heap[g]?):Zdf base w' g c rs:=by
 obtain⟨h1,h2⟩:=h
 refine⟨h1,?_⟩
 rcases h2 with h2 | ⟨g',cp,cur,e1,h3,h4,h5⟩
 · exact Or.inl h2
 · have hg:g=g':=by injection e1 with e2;injection e2 with e2;injection e2
   subst hg
   exact Or.inr ⟨g,cp,cur,e1,h3,e.trans h4,h5⟩
theorem ZaP.same{base:Nat}{w w':World}{g c:Nat}{rs:List Rw}(h:ZaP base w g c rs)(e:∀i,(i=g\/∃r∈rs,i=r.1)->w'.heap[i]? =w.heap[i]?):ZaP base w' g c rs:=
 ⟨h.row.same (e g (Or.inl rfl)),fun x hx=>(h.rows x hx).same (e x.1 (Or.inr ⟨x,hx,rfl⟩)),h.apart,h.off⟩
theorem ZaP.all{base:Nat}{w:World}{g c:Nat}{rs:List Rw}(h:ZaP base w g c rs):∀i,(i=g\/∃r∈rs,i=r.1)->base<=i/\i<w.heap.size:=fun i hi=>by
 rcases hi with rfl | ⟨r,hr,rfl⟩
 · exact h.row.lt
 · exact (h.rows r hr).lt
end Go.Proofs.YtaaagmgglolibaaGreat
