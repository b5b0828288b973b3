import Derived.Test.YtaaagmgglolibaaGreatMathZz
import Derived.Test.YtaaagmgglolibaaGreatGKeepZz
import Derived.Test.YtaaagmgglolibaaGreatMArgsZz
set_option maxHeartbeats 400000
namespace Go.Proofs.YtaaagmgglolibaaGreat
open Go Go.RowKit Go.Deep
def ZlI(w:World)(b off:Nat)(ls:List (List Int)):Prop:=∀i,i<ls.length->∃a c,w.cell? ⟨b,off+i,none⟩=some (.slice a (cn ls i).length c)/\Zs w a (cn ls i)
def Z8(w:World)(ao:Option Addr)(ls:List (List Int)):Prop:=ls=[]\/∃b off,ao=some ⟨b,off,none⟩/\b<w.heap.size/\ZlI w b off ls
def ZaZ(ls:List (List Int)):Prop:=ls.length<=1048576/\∀i,(cn ls i).length<=1048576
theorem ZlI.below{w w':World}{B b off:Nat}{ls:List (List Int)}(h:ZlI w b off ls)(hb:b<B)(hB:w.heap.size<=B)(hw:Below B w w'):ZlI w' b off ls:=fun i hi=>by
 obtain⟨a,c,h1,h2⟩:=h i hi
 exact⟨a,c,(hw.cell (p:=⟨b,off+i,none⟩) hb).trans h1,h2.below hB hw⟩
theorem Z8.below{w w':World}{B:Nat}{ao:Option Addr}{ls:List (List Int)}(h:Z8 w ao ls)(hB:w.heap.size<=B)(hw:Below B w w'):Z8 w' ao ls:=by
 rcases h with h | ⟨b,off,e,hb,hs⟩
 · exact Or.inl h
 · exact Or.inr ⟨b,off,e,Nat.lt_of_lt_of_le hb hw.size,hs.below (Nat.lt_of_lt_of_le hb hB) hB hw⟩
theorem Z8.next{w w':World}{ao:Option Addr}{ls:List (List Int)}(h:Z8 w ao ls)(hw:Below w.heap.size w w'):Z8 w' ao ls:=h.below (Nat.le_refl _) hw
theorem Z8.drewN{w:World}{ao:Option Addr}{ls:List (List Int)}(h:Z8 w ao ls)(n:Nat):Z8 (w.drewN n) ao ls:=h
theorem Z8.seg{w:World}{ao:Option Addr}{ls:List (List Int)}(h:Z8 w ao ls)(h0:0<ls.length):∃b off,ao=some ⟨b,off,none⟩/\b<w.heap.size/\ZlI w b off ls:=by
 rcases h with h | h
 · subst h;simp at h0
 · exact h
theorem Zls.cview{w:World}{ao:Option Addr}{ls:List (List Int)}(h:Zls w ao ls):Z8 w ao ls:=
 h.imp id fun ⟨b,e,hb,hs⟩=>⟨b,0,e,hb,fun i hi=>by
  obtain⟨a,c,h1,h2⟩:=hs i hi
  rw [cn_at hi,Nat.zero_add]
  exact⟨a,c,h1,h2⟩⟩
end Go.Proofs.YtaaagmgglolibaaGreat
namespace Go.Proofs.YtaaagmgglolibaaGreat
open Go Go.RowKit
end Go.Proofs.YtaaagmgglolibaaGreat
namespace Go.Proofs.YtaaagmgglolibaaGreat
open Go Go.RowKit Go.Deep
end Go.Proofs.YtaaagmgglolibaaGreat
namespace Go.Proofs.YtaaagmgglolibaaGreat
open Go Go.RowKit
theorem ZmW(ao ao':Option Addr)(n n' cap cap':Nat)(w:World)(h:n≠n'):
 Calls Tryz.prog 201 #[.slice ao n cap,.slice ao' n' cap'] w fun e w'=>e=.returned (.bool false)/\w'=w:=by
 have hlb:((n:Int) !=(n':Int))=true:=by simp;omega
 go_enter Tryz.func201,Tryz.ntmps201
 go_wp2
 go_ret
 exact⟨rfl,rfl⟩
theorem ZhD(ao ao':Option Addr)(cap cap':Nat)(w:World):
 Calls Tryz.prog 201 #[.slice ao 0 cap,.slice ao' 0 cap'] w fun e w'=>e=.returned (.bool true)/\w'=w:=by
 go_enter Tryz.func201,Tryz.ntmps201
 go_wp2
 refine wp_loop_rounds 1 ?_
 rw [rounds_succ]
 go_wp2
 go_ret
 exact⟨rfl,rfl⟩
theorem ZlJ(b off cap b' off' cap':Nat)(xs ys:List Int)(w:World)(hs:Seg w b off xs)(hs':Seg w b' off' ys)(hn:xs.length<=1048576)(hl:xs.length=ys.length):
 Calls Tryz.prog 201 #[.slice (some ⟨b,off,none⟩) xs.length cap,.slice (some ⟨b',off',none⟩) ys.length cap'] w fun e w'=>e=.returned (.bool (decide (xs=ys)))/\∃n,w'=w.drewN n:=by
 have hlb:((xs.length:Int) !=(ys.length:Int))=false:=by simp [hl]
 have HL:Hid (xs.length=ys.length):=hl
 have hn':ys.length<=1048576:=by omega
 clear hl
 go_enter Tryz.func201,Tryz.ntmps201
 go_wp2
 go_loopw [13] (fun i wr=>∃k:Nat,k<=xs.length/\i=.int .i64 k/\(∀j,j<k->nth xs j=nth ys j)/\∃n,wr=w.drewN n) (fun i _=>xs.length-(intOf i).toNat)
 case atStart=>exact⟨0,Nat.zero_le _,rfl,fun j hj=>by omega,0,rfl⟩
 case round=>
  obtain⟨k,hk,rfl,hall,n,rfl⟩:=hrel
  have HA:Hid (∀j,j<k->nth xs j=nth ys j):=hall
  clear hall
  by_cases hlt:k<xs.length
  · have hc:=hs k hlt
    have hlt':k<ys.length:=by have:=HL.out;omega
    have hc':=hs' k hlt'
    by_cases he:nth xs k=nth ys k
    · have heb:(nth xs k !=nth ys k)=false:=by simp [he]
      have HE:Hid (nth xs k=nth ys k):=he
      clear he
      go_wp2
      go_quiet (fail)
      go_wp2
      go_roundw
      case rel=>exact⟨k+1,by omega,by go_num,fun j hj=>by
       rcases Nat.lt_or_ge j k with h | h
       · exact HA.out j h
       · rw [show j=k by omega];exact HE.out,_,rfl⟩
      case measure=>simp [intOf];omega
    · have heb:(nth xs k !=nth ys k)=true:=by simp [he]
      have HE:Hid (¬nth xs k=nth ys k):=he
      clear he
      go_wp2
      go_quiet (fail)
      go_wp2
      go_ret
      exact⟨Zg (Eq.symm (decide_eq_false (fun h=>HE.out (by rw [h])))),n+nq,by simp⟩
  · go_wp2
    go_ret
    obtain rfl:k=xs.length:=by omega
    exact⟨Zg (Eq.symm (decide_eq_true (Zd7 HL.out HA.out))),_,rfl⟩
theorem jeqS(ao ao':Option Addr)(cap cap':Nat)(xs ys:List Int)(w:World)(hv:Zs w ao xs)(hv':Zs w ao' ys)(hn:xs.length<=1048576):
 Calls Tryz.prog 201 #[.slice ao xs.length cap,.slice ao' ys.length cap'] w fun e w'=>e=.returned (.bool (decide (xs=ys)))/\∃n,w'=w.drewN n:=by
 by_cases hl:xs.length=ys.length
 · rcases hv with rfl | ⟨b,off,rfl,_,hs⟩
   · obtain rfl:ys=[]:=List.eq_nil_of_length_eq_zero (by simpa using hl.symm)
     refine (ZhD ao ao' cap cap' w).mono ?_
     rintro e w' ⟨rfl,rfl⟩
     exact⟨rfl,0,rfl⟩
   · rcases hv' with rfl | ⟨b',off',rfl,_,hs'⟩
     · obtain rfl:xs=[]:=List.eq_nil_of_length_eq_zero (by simpa using hl)
       refine (ZhD _ ao' cap cap' w).mono ?_
       rintro e w' ⟨rfl,rfl⟩
       exact⟨rfl,0,rfl⟩
     · exact ZlJ b off cap b' off' cap' xs ys w hs hs' hn hl
 · refine (ZmW ao ao' xs.length ys.length cap cap' w hl).mono ?_
   rintro e w' ⟨rfl,rfl⟩
   exact⟨Zg (Eq.symm (decide_eq_false (fun h=>hl (by rw [h])))),0,rfl⟩
end Go.Proofs.YtaaagmgglolibaaGreat
