import Derived.Test.YtaaagmgglolibaaGreatBCopyZz
import Derived.Test.YtaaagmgglolibaaGreatMovedSZz
set_option maxHeartbeats 400000
namespace Go.Proofs.YtaaagmgglolibaaGreat
open Go Go.RowKit
def ZF(base:Nat)(w:World)(g c:Nat)(xs:List Int):Prop:=w.ownsRow base 2 1 (.slice (some ⟨g,0,none⟩) xs.length c) xs.length (xs.map (Value.int .i64))
theorem ZF.lt{base:Nat}{w:World}{g c:Nat}{xs:List Int}(h:ZF base w g c xs):base<=g/\g<w.heap.size:=World.ownsRow.lt h g rfl
theorem ZF.seg{base:Nat}{w:World}{g c:Nat}{xs:List Int}(h:ZF base w g c xs):Seg w g 0 xs:=fun i hi=>by
 rw [Nat.zero_add,World.ownsRow.cellAt h i (by omega)]
 simp [nth,List.getD,hi]
theorem ZF.view{base:Nat}{w:World}{g c:Nat}{xs:List Int}(h:ZF base w g c xs):Zs w (some ⟨g,0,none⟩) xs:=Or.inr ⟨g,0,rfl,h.lt.2,h.seg⟩
theorem ZF.kept{base:Nat}{w w':World}{g c:Nat}{r:Option Nat}{xs:List Int}(h:ZF base w g c xs)(hg:w.grownBy w' r)(hr:some g≠r):ZF base w' g c xs:=World.ownsRow.kept h hg (Or.inr hr)
theorem ZF.below{base:Nat}{w w':World}{g c:Nat}{xs:List Int}(h:ZF base w g c xs)(hw:Below w.heap.size w w'):ZF base w' g c xs:=
 h.kept (r:=none) ⟨hw.os,hw.tape,hw.output,hw.size,fun i hi _=>hw.block i hi⟩ (by simp)
theorem ZF.mono{base base':Nat}{w:World}{g c:Nat}{xs:List Int}(h:ZF base w g c xs)(hb:base'<=base):ZF base' w g c xs:=
 ⟨h.1,h.2.imp id fun ⟨g,cap,cur,h1,h2,h3⟩=>⟨g,cap,cur,h1,Nat.le_trans hb h2,h3⟩⟩
theorem ZF.start(w:World)(base:Nat)(hb:base<=w.heap.size):ZF base (w.alloc (.cells #[] 2)) w.heap.size 0 []:=World.ownsRow_lit w #[] 0 hb (Nat.zero_le _) rfl
theorem ZF.of{base:Nat}{w:World}{g c n:Nat}{xs:List Int}{ys:List Value}(h:w.ownsRow base 2 1 (.slice (some ⟨g,0,none⟩) n c) n ys)(hn:n=xs.length)(hx:ys=xs.map (Value.int .i64)):ZF base w g c xs:=by
 subst hn hx;exact h
theorem ZF.store{base:Nat}{w:World}{g c:Nat}{xs:List Int}(h:ZF base w g c xs)(k:Nat)(v:Int):ZF base (w.setCell ⟨g,k,none⟩ (.int .i64 v)) g c (xs.set k v):=by
 have h1:=(World.ownsRow.stored h k (.int .i64 v)).1
 unfold ZF
 rw [List.length_set,List.map_set]
 exact h1
theorem ZnA(base g c:Nat)(k0:Int)(xs:List Int)(w:World)(ho:ZF base w g c xs)(hn:xs.length<=1048576)(h0:1<=k0)(h1:k0<=100000000):
 Calls Tryz.prog 79 #[.slice (some ⟨g,0,none⟩) xs.length c,.int .i64 k0] w fun e w'=>e=.returned (.int .i64 (k0+xs.length))/\ZF base w' g c (ZaU (fun i=>k0+i) xs.length)/\w.grownBy w' (some g):=by
 go_enter Tryz.func79,Tryz.ntmps79
 go_wp2
 go_loopw [1,5] (fun kk i wr=>∃k:Nat,k<=xs.length/\i=.int .i64 k/\kk=.int .i64 (k0+k)/\ZF base wr g c (Zcu k0 xs k)/\w.grownBy wr (some g)) (fun _ i _=>xs.length-(intOf i).toNat)
 case atStart=>exact⟨0,Nat.zero_le _,rfl,by simp,by simpa [Zcu,ZaU] using ho,⟨rfl,rfl,rfl,Nat.le_refl _,fun _ _ _=>rfl⟩⟩
 case round=>
  obtain⟨k,hk,rfl,rfl,hown,hg⟩:=hrel
  by_cases hlt:k<xs.length
  · have hc:=hown.seg k (by rw [ZfM _ _ _ hk];exact hlt)
    rw [Nat.zero_add] at hc
    have hf:=World.ownsRow.frozenAt hown k
    have R1:=hown.store k (k0+k)
    rw [Zib k0 xs k hlt] at R1
    have R2:=Zau (k:=k) (v:=.int .i64 (k0+k)) hg
    have HR:=Za (And.intro R1 R2)
    clear R1 R2 hown hg
    go_wp2
    go_roundw
    case rel=>exact⟨k+1,by omega,by go_num,by go_num,HR.out.1,HR.out.2⟩
    case measure=>simp [intOf];omega
  · go_wp2
    go_ret
    obtain rfl:k=xs.length:=by omega
    exact⟨rfl,by rw [<-Zic];exact hown,hg⟩
theorem ZnB(ao:Option Addr)(cap n:Nat)(k0:Int)(w:World)(hv:Zs w ao (ZaU (fun i=>k0+i) n))(hn:n<=1048576)(h0:1<=k0)(h1:k0<=100000000):
 Calls Tryz.prog 94 #[.slice ao n cap,.int .i64 k0] w fun e w'=>e=.returned (.int .i64 (k0+n))/\w'=w:=by
 rcases Nat.eq_zero_or_pos n with h | h
 · subst h
   refine (ZkU ao cap k0 w).mono ?_
   rintro e w' ⟨rfl,rfl⟩
   exact⟨by simp,rfl⟩
 · obtain⟨b,off,rfl,hb,hs⟩:=hv.seg (by rw [ZE];exact h)
   go_enter Tryz.func94,Tryz.ntmps94
   go_wp2
   go_loop [1,5] (fun kk i=>∃k:Nat,k<=n/\i=.int .i64 k/\kk=.int .i64 (k0+k)) (fun _ i=>n-(intOf i).toNat)
   case atStart=>exact⟨0,Nat.zero_le _,rfl,by simp⟩
   case round=>
    obtain⟨k,hk,rfl,rfl⟩:=hrel
    by_cases hlt:k<n
    · have hc:=hs k (by rw [ZE];exact hlt)
      rw [show nth (ZaU (fun i=>k0+i) n) k=k0+k from Zd5 _ _ _ hlt] at hc
      have hne:((k0+(k:Int)) !=(k0+(k:Int)))=false:=by simp
      go_wp2
      go_round
      case rel=>exact⟨k+1,by omega,by go_num,by go_num⟩
      case measure=>simp [intOf];omega
    · go_wp2
      go_ret
      obtain rfl:k=n:=by omega
      exact⟨rfl,rfl⟩
def IOut(base:Nat)(w:World)(v:Value)(xs:List Int):Prop:=(v=.slice none 0 0/\xs=[])\/∃g c,v=.slice (some ⟨g,0,none⟩) xs.length c/\ZF base w g c xs
def ChgV(v:Value)(w w':World):Prop:=w'.os=w.os/\w'.tape=w.tape/\w'.output=w.output/\w.heap.size<=w'.heap.size/\∀i,i<w.heap.size->(∀a n c,v=.slice (some a) n c->i≠a.block)->w'.heap[i]? =w.heap[i]?
theorem markO(base c:Nat)(ao:Option Addr)(k0:Int)(xs:List Int)(w:World)(h:IOut base w (.slice ao xs.length c) xs)(hn:xs.length<=1048576)(h0:1<=k0)(h1:k0<=100000000):
 Calls Tryz.prog 79 #[.slice ao xs.length c,.int .i64 k0] w fun e w'=>e=.returned (.int .i64 (k0+xs.length))/\IOut base w' (.slice ao (ZaU (fun i=>k0+i) xs.length).length c) (ZaU (fun i=>k0+i) xs.length)/\ChgV (.slice ao xs.length c) w w'/\∀g,(∃a,ao=some a/\a.block=g)->base<=g:=by
 rcases h with ⟨e,rfl⟩ | ⟨g,c',e,hr⟩
 · injection e with e1 e2 e3
   subst e1 e3
   refine (ZkV none 0 k0 w).mono ?_
   rintro e w' ⟨rfl,rfl⟩
   exact⟨by simp,Or.inl ⟨rfl,rfl⟩,⟨rfl,rfl,rfl,Nat.le_refl _,fun _ _ _=>rfl⟩,fun g ⟨a,ha,_⟩=>by cases ha⟩
 · injection e with e1 e2 e3
   subst e1 e3
   refine (ZnA base g c k0 xs w hr hn h0 h1).mono ?_
   rintro e w' ⟨rfl,hr',hg⟩
   refine⟨rfl,Or.inr ⟨g,c,rfl,hr'⟩,⟨hg.os,hg.tape,hg.output,hg.size,fun i hi hne=>hg.block i hi (fun e=>hne ⟨g,0,none⟩ _ _ rfl (by injection e))⟩,fun q ⟨a,ha,hq⟩=>?_⟩
   cases ha
   rw [<-hq];exact hr.lt.1
end Go.Proofs.YtaaagmgglolibaaGreat
