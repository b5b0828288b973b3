import Derived.Test.YtilkaeclgmcolaaGreatCopyZz
import Derived.Deep.RegionHeld3
import Derived.Deep.AppendLies
set_option maxHeartbeats 400000
namespace Go.Proofs.YtilkaeclgmcolaaGreat
open Go Go.RowKit
theorem Znh{w:World}{base g cap n:Nat}{xs:List Int}(h:w.ownsRow base 2 1 (.slice (some ⟨g,0,none⟩) n cap) n (xs.map (Value.int .i64))):Zy w (some ⟨g,0,none⟩) xs:=by
 have b:xs.length=n:=by have:=h.1;simpa using this
 refine Or.inr ⟨g,0,rfl,(h.lt g rfl).2,fun i a=>?_⟩
 rw [Nat.zero_add,h.cellAt i (by omega)]
 simp [nth,List.getD,a]
theorem Own.set{w:World}{b:Nat}{xs:List Int}(h:Own w b xs)(k:Nat)(v:Int):Own (w.setCell ⟨b,k,none⟩ (.int .i64 v)) b (xs.set k v):=by
 unfold Own at h ⊢
 simp only [World.setCell,Array.getElem?_modify,h]
 simp [Zds,List.map_set]
theorem Own.grown{w w':World}{b c:Nat}{xs:List Int}(h:Own w b xs)(hg:w.grownBy w' (some c))(hne:b≠c):Own w' b xs:=
 (hg.block b h.lt (by simp;omega)).trans h
theorem Zal{w w':World}{b k:Nat}{v:Value}(hg:w.grownBy w' (some b)):w.grownBy (w'.setCell ⟨b,k,none⟩ v) (some b):=
 ⟨hg.os,hg.tape,hg.output,by simpa [World.setCell] using hg.size,fun q hq hne=>by
  rw [Below.heap_setCell _ _ _ _ (by intro e;exact hne (by rw [e]))];exact hg.block q hq hne⟩
theorem Own.frozen{w:World}{b:Nat}{xs:List Int}(h:Own w b xs)(i:Nat):w.frozen? ⟨b,i,none⟩=false:=by
 unfold Own at h;simp [World.frozen?,h]
def Zcd(k0:Int)(xs:List Int)(k:Nat):List Int:=ZaE (fun i=>k0+i) k++xs.drop k
theorem Zdx(k0:Int)(xs:List Int)(k:Nat)(h:k<=xs.length):(Zcd k0 xs k).length=xs.length:=by simp [Zcd,ZE];omega
theorem Zfj(k0:Int)(xs:List Int)(k:Nat)(h:k<xs.length):(Zcd k0 xs k).set k (k0+k)=Zcd k0 xs (k+1):=by
 unfold Zcd
 rw [List.set_append_right _ _ (by rw [ZE];exact Nat.le_refl _),ZE,Nat.sub_self,Zgj,List.append_assoc,List.drop_eq_getElem_cons h]
 rfl
theorem Zfk(k0:Int)(xs:List Int):Zcd k0 xs xs.length=ZaE (fun i=>k0+i) xs.length:=by simp [Zcd]
theorem ZlL(ao:Option Addr)(cap:Nat)(k0:Int)(w:World):
 Calls Tryz.prog 25 #[.slice ao 0 cap,.int .i64 k0] w fun e w'=>e=.returned (.int .i64 k0)/\w'=w:=by
 go_enter Tryz.func25,Tryz.ntmps25
 go_wp2
 refine wp_loop_rounds 1 ?_
 rw [rounds_succ]
 go_wp2
 go_ret
 exact⟨rfl,rfl⟩
theorem ZlK(ao:Option Addr)(cap:Nat)(k0:Int)(w:World):
 Calls Tryz.prog 26 #[.slice ao 0 cap,.int .i64 k0] w fun e w'=>e=.returned (.int .i64 k0)/\w'=w:=by
 go_enter Tryz.func26,Tryz.ntmps26
 go_wp2
 refine wp_loop_rounds 1 ?_
 rw [rounds_succ]
 go_wp2
 go_ret
 exact⟨rfl,rfl⟩
theorem Zbv(w:World)(r:Option Nat):w.grownBy w r:=⟨rfl,rfl,rfl,Nat.le_refl _,fun _ _ _=>rfl⟩
theorem Zc9{w w1 w2:World}{q:Nat}(h:w.grownBy w1 (some q))(k:w1.grownBy w2 (some q)):w.grownBy w2 (some q):=
 ⟨k.os.trans h.os,k.tape.trans h.tape,k.output.trans h.output,Nat.le_trans h.size k.size,fun i hi hne=>(k.block i (Nat.lt_of_lt_of_le hi h.size) hne).trans (h.block i hi hne)⟩
def Row(base:Nat)(w:World)(g c:Nat)(xs:List Int):Prop:=w.ownsRow base 2 1 (.slice (some ⟨g,0,none⟩) xs.length c) xs.length (xs.map (Value.int .i64))
theorem Row.view{base:Nat}{w:World}{g c:Nat}{xs:List Int}(h:Row base w g c xs):Zy w (some ⟨g,0,none⟩) xs:=Znh h
end Go.Proofs.YtilkaeclgmcolaaGreat
