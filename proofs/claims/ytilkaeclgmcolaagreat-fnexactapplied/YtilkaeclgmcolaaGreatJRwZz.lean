import Derived.Test.YtilkaeclgmcolaaGreatMathZz
import Derived.Test.YtilkaeclgmcolaaGreatGKeepZz
import Derived.Test.YtilkaeclgmcolaaGreatMArgsZz
set_option maxHeartbeats 1000000
namespace Go.Proofs.YtilkaeclgmcolaaGreat
open Go Go.RowKit Go.Deep
def Zi5(w:World)(b off:Nat)(ls:List (List Int)):Prop:=∀i,i<ls.length->∃a c,w.cell? ⟨b,off+i,none⟩=some (.slice a (cn ls i).length c)/\Zy w a (cn ls i)
def ZS(w:World)(ao:Option Addr)(ls:List (List Int)):Prop:=ls=[]\/∃b off,ao=some ⟨b,off,none⟩/\b<w.heap.size/\Zi5 w b off ls
def Z7(ls:List (List Int)):Prop:=ls.length<=1048576/\∀i,(cn ls i).length<=1048576
theorem Zi5.below{w w':World}{B b off:Nat}{ls:List (List Int)}(h:Zi5 w b off ls)(hb:b<B)(hB:w.heap.size<=B)(hw:Below B w w'):Zi5 w' b off ls:=fun i hi=>by
 obtain⟨a,c,h1,h2⟩:=h i hi
 exact⟨a,c,(hw.cell (p:=⟨b,off+i,none⟩) hb).trans h1,h2.below hB hw⟩
theorem ZS.below{w w':World}{B:Nat}{ao:Option Addr}{ls:List (List Int)}(h:ZS w ao ls)(hB:w.heap.size<=B)(hw:Below B w w'):ZS w' ao ls:=by
 rcases h with h | ⟨b,off,e,hb,hs⟩
 · exact Or.inl h
 · exact Or.inr ⟨b,off,e,Nat.lt_of_lt_of_le hb hw.size,hs.below (Nat.lt_of_lt_of_le hb hB) hB hw⟩
theorem ZS.next{w w':World}{ao:Option Addr}{ls:List (List Int)}(h:ZS w ao ls)(hw:Below w.heap.size w w'):ZS w' ao ls:=h.below (Nat.le_refl _) hw
theorem ZS.drewN{w:World}{ao:Option Addr}{ls:List (List Int)}(h:ZS w ao ls)(n:Nat):ZS (w.drewN n) ao ls:=h
theorem ZS.seg{w:World}{ao:Option Addr}{ls:List (List Int)}(h:ZS w ao ls)(h0:0<ls.length):∃b off,ao=some ⟨b,off,none⟩/\b<w.heap.size/\Zi5 w b off ls:=by
 rcases h with h | h
 · subst h;simp at h0
 · exact h
theorem Zmu.cview{w:World}{ao:Option Addr}{ls:List (List Int)}(h:Zmu w ao ls):ZS w ao ls:=
 h.imp id fun ⟨b,e,hb,hs⟩=>⟨b,0,e,hb,fun i hi=>by
  obtain⟨a,c,h1,h2⟩:=hs i hi
  rw [cn_at hi,Nat.zero_add]
  exact⟨a,c,h1,h2⟩⟩
def Zhh(w:World)(b off:Nat)(l:List Int):Prop:=∃g,b<g/\w.cell? ⟨b,off,none⟩=some (.slice (some ⟨g,0,none⟩) l.length l.length)/\Own w g l
def Zbc(w:World)(b k n:Nat)(ls:List (List Int)):Prop:=b<w.heap.size/\(∀i,i<k->Zhh w b i (cn ls i))/\(∀j,k<=j->j<n->(∃v,w.cell? ⟨b,j,none⟩=some v))/\∀j,w.frozen? ⟨b,j,none⟩=false
theorem Zhh.below{w w':World}{B b off:Nat}{l:List Int}(h:Zhh w b off l)(hB:w.heap.size<=B)(hb:b<w.heap.size)(hw:Below B w w'):Zhh w' b off l:=by
 obtain⟨g,c,d,a⟩:=h
 exact⟨g,c,(hw.cell (p:=⟨b,off,none⟩) (Nat.lt_of_lt_of_le hb hB)).trans d,a.below (Nat.lt_of_lt_of_le a.lt hB) hw⟩
theorem Zbc.below{w w':World}{B b k n:Nat}{ls:List (List Int)}(h:Zbc w b k n ls)(hB:w.heap.size<=B)(hw:Below B w w'):Zbc w' b k n ls:=
 ⟨Nat.lt_of_lt_of_le h.1 hw.size,fun i hi=>(h.2.1 i hi).below hB h.1 hw,fun j h1 h2=>by
  obtain⟨v,hv⟩:=h.2.2.1 j h1 h2
  exact⟨v,(hw.cell (p:=⟨b,j,none⟩) (Nat.lt_of_lt_of_le h.1 hB)).trans hv⟩,fun j=>(hw.frozen (p:=⟨b,j,none⟩) (Nat.lt_of_lt_of_le h.1 hB)).trans (h.2.2.2 j)⟩
theorem Zbc.step{w:World}{b k n g:Nat}{ls:List (List Int)}(h:Zbc w b k n ls)(hk:k<n)(hg:b<g)(ho:Own w g (cn ls k)):
 Zbc (w.setCell ⟨b,k,none⟩ (.slice (some ⟨g,0,none⟩) (cn ls k).length (cn ls k).length)) b (k+1) n ls:=by
 obtain⟨f,c,a,e⟩:=h
 obtain⟨s,o⟩:=a k (Nat.le_refl _) hk
 refine⟨by rw [Ze];exact f,fun i q=>?_,fun j r p=>?_,fun j=>by rw [World.frozen?_setCell];exact e j⟩
 · rcases Nat.lt_or_ge i k with h | h
   · obtain⟨l,d,c1,m⟩:=c i h
     exact⟨l,d,by rw [ZP _ _ _ _ _ (by omega)];exact c1,m.setOther (by simp;omega) _⟩
   · obtain rfl:i=k:=by omega
     exact⟨g,hg,World.cell?_setCell_same _ _ _ o,ho.setOther (by simp;omega) _⟩
 · rw [ZP _ _ _ _ _ (by omega)]
   exact a j (by omega) p
theorem Zbc.view{w:World}{b:Nat}{ls:List (List Int)}(h:Zbc w b ls.length ls.length ls):ZS w (some ⟨b,0,none⟩) ls:=
 Or.inr ⟨b,0,rfl,h.1,fun i hi=>by
  obtain⟨g,_,c1,o⟩:=h.2.1 i hi
  rw [Nat.zero_add]
  exact⟨_,_,c1,o.view⟩⟩
theorem Zbc.start(w:World)(z:Array Value)(t:TypeId)(n:Nat)(ls:List (List Int)):Zbc (w.alloc (.cells (madeCells z n) t)) w.heap.size 0 n ls:=
 ⟨by simp,fun i hi=>by omega,fun j _ h2=>by
  rw [World.cell?_alloc_at _ _ _ _ rfl]
  exact⟨_,Array.getElem?_eq_getElem (by rw [size_madeCells];exact h2)⟩,fun j=>World.frozen?_alloc_at _ _ _ _ rfl⟩
theorem ZmL(b off cap:Nat)(ls:List (List Int))(w:World)(hs:Zi5 w b off ls)(hb:b<w.heap.size)(hsm:Z7 ls):
 Calls Tryz.prog 189 #[.slice (some ⟨b,off,none⟩) ls.length cap] w fun e w'=>e=.returned (.slice (some ⟨w.heap.size,0,none⟩) ls.length ls.length)/\Zbc w' w.heap.size ls.length ls.length ls/\Below w.heap.size w w':=by
 obtain⟨y,j⟩:=hsm
 have d:=Zai (P:=Tryz.prog) 156 31 (.slice none 0 0) 1 24 Tryz.underlying156 Tryz.infoL .i64 .i64 ls.length (by omega) (by omega)
 rw [Nat.mul_one] at d
 go_enter Tryz.func189,Tryz.ntmps189
 go_wp2
 clear d
 go_loopw [4] (fun i wr=>∃k:Nat,k<=ls.length/\i=.int .i64 k/\Zbc wr w.heap.size k ls.length ls/\Below w.heap.size w wr) (fun i _=>ls.length-(intOf i).toNat)
 case atStart=>exact⟨0,Nat.zero_le _,rfl,Zbc.start w _ _ _ _,(Below.refl _ _).alloc (Nat.le_refl _) _⟩
 case round=>
  obtain⟨k,u,rfl,f,L⟩:=hrel
  by_cases hlt:k<ls.length
  · obtain⟨r,c,h,n⟩:=(hs.below hb (Nat.le_refl _) L) k hlt
    have p:=L.size
    have t:=f.1
    go_wp2_with fail
    refine (toS r c (cn ls k) _ n (j k)).mono ?_
    rintro e v ⟨g,rfl,m,x,l⟩
    have a:=f.below (Nat.le_refl _) l
    have o:=L.trans (l.mono p)
    obtain⟨z,B⟩:=a.2.2.1 k (Nat.le_refl _) hlt
    have A:=a.2.2.2 k
    have s:=Za (a.step hlt (by omega) m)
    have q:=Za o
    clear f a L l o m h n
    go_wp2_with fail
    go_roundw
    case rel=>exact⟨k+1,by omega,by go_num,s.out,(q.out.setCell (by simp) _)⟩
    case measure=>simp [intOf];omega
  · go_wp2
    go_ret
    obtain rfl:k=ls.length:=by omega
    exact⟨rfl,f,L⟩
theorem ZmM(ao:Option Addr)(cap:Nat)(w:World):
 Calls Tryz.prog 189 #[.slice ao 0 cap] w fun e w'=>e=.returned (.slice (some ⟨w.heap.size,0,none⟩) 0 0)/\w'=w.alloc (.cells #[] 31):=by
 have a:∀w,(Instr.makeSlice 156 (.int .i64 0) (.int .i64 0)).run Tryz.prog w=.ok (.slice (some ⟨w.heap.size,0,none⟩) 0 0) (w.alloc (.cells #[] 31)):=fun _=>by kernel_rfl
 go_enter Tryz.func189,Tryz.ntmps189
 go_wp2
 clear a
 refine wp_loop_rounds 1 ?_
 rw [rounds_succ]
 go_wp2
 go_ret
 exact⟨rfl,rfl⟩
theorem toCS(ao:Option Addr)(cap:Nat)(ls:List (List Int))(w:World)(hv:ZS w ao ls)(hsm:Z7 ls):
 Calls Tryz.prog 189 #[.slice ao ls.length cap] w fun e w'=>∃b,e=.returned (.slice (some ⟨b,0,none⟩) ls.length ls.length)/\Zbc w' b ls.length ls.length ls/\w.heap.size<=b/\Below w.heap.size w w':=by
 rcases hv with rfl | ⟨b,off,rfl,hb,hs⟩
 · refine (ZmM ao cap w).mono ?_
   rintro e w' ⟨rfl,rfl⟩
   exact⟨_,rfl,⟨by simp,fun i a=>by simp at a,fun j _ d=>by simp at d,fun j=>World.frozen?_alloc_at _ _ _ _ rfl⟩,Nat.le_refl _,(Below.refl _ _).alloc (Nat.le_refl _) _⟩
 · refine (ZmL b off cap ls w hs hb hsm).mono ?_
   rintro e w' ⟨rfl,c,L⟩
   exact⟨_,rfl,c,Nat.le_refl _,L⟩
theorem eqCS(ao ao':Option Addr)(cap cap':Nat)(ls:List (List Int))(w:World)(hv:ZS w ao ls)(hv':ZS w ao' ls)(hsm:Z7 ls):
 Calls Tryz.prog 199 #[.slice ao ls.length cap,.slice ao' ls.length cap'] w fun e w'=>e=.returned (.bool true)/\∃n,w'=w.drewN n:=by
 have u:((ls.length:Int) !=(ls.length:Int))=false:=by simp
 have p:=hsm.1
 have y:=Za hv
 have h:=Za hv'
 have j:=Za hsm.2
 clear hv hv' hsm
 go_enter Tryz.func199,Tryz.ntmps199
 go_wp2_with fail
 go_loopw [5] (fun i wr=>∃k:Nat,k<=ls.length/\i=.int .i64 k/\∃n,wr=w.drewN n) (fun i _=>ls.length-(intOf i).toNat)
 case atStart=>exact⟨0,Nat.zero_le _,rfl,0,rfl⟩
 case round=>
  obtain⟨k,F,rfl,l⟩:=hrel
  have g:=Za l
  clear l
  by_cases hlt:k<ls.length
  · have m:ZS wr ao ls:=by obtain⟨n,rfl⟩:=g.out;exact y.out.drewN n
    have q:ZS wr ao' ls:=by obtain⟨n,rfl⟩:=g.out;exact h.out.drewN n
    obtain⟨b,v,rfl,E,s1⟩:=m.seg (by omega)
    obtain⟨D,o,rfl,B,s2⟩:=q.seg (by omega)
    obtain⟨a,c,c1,s⟩:=s1 k hlt
    obtain⟨C,A,c2,d⟩:=s2 k hlt
    have r:=Za (fun n=>eqS a C c A (cn ls k) (cn ls k) (wr.drewN n) (s.drewN n) (d.drewN n) (j.out k))
    have f:decide (cn ls k=cn ls k)=true:=by simp
    rw [f] at r
    have z:=n0Z k
    have t:(k:Int)<(ls.length:Int):=by omega
    clear s d m q s1 s2 f
    generalize cn ls k=x at *
    go_wp2_with fail
    go_quiet (first | (go_at_call 22;exact Calls.quiet_of (r.out _)))
    go_wp2_with fail
    go_roundw
    case rel=>exact⟨k+1,by omega,by go_num,by obtain⟨n,p⟩:=g.out;exact⟨n+nq,by rw [p];simp⟩⟩
    case measure=>simp [intOf];omega
  · go_wp2_with fail
    go_ret
    exact⟨rfl,g.out⟩
def Zdy(w:World)(b hi:Nat)(ls:List (List Int)):Prop:=b<w.heap.size/\b<hi/\
 ∀j,j<ls.length->∃g xs,b<g/\g<hi/\w.cell? ⟨b,j,none⟩=some (.slice (some ⟨g,0,none⟩) (cn ls j).length (cn ls j).length)/\xs.length=(cn ls j).length/\Own w g xs
theorem Zbc.over{w:World}{b:Nat}{ls:List (List Int)}(h:Zbc w b ls.length ls.length ls):Zdy w b w.heap.size ls:=
 ⟨h.1,h.1,fun j hj=>by
  obtain⟨g,hg,c1,o⟩:=h.2.1 j hj
  exact⟨g,cn ls j,hg,o.lt,c1,rfl,o⟩⟩
theorem Zdy.marked{w w':World}{b hi g:Nat}{ls:List (List Int)}{xs ys:List Int}(h:Zdy w b hi ls)(hb:b<g)(ho:Own w g xs)(hg:w.grownBy w' (some g))(ho':Own w' g ys)(hl:ys.length=xs.length):Zdy w' b hi ls:=by
 obtain⟨f,n,p⟩:=h
 have c:some b≠some g:=fun e=>by injection e with e;omega
 refine⟨Nat.lt_of_lt_of_le f hg.size,n,fun j m=>?_⟩
 obtain⟨l,k,d,a,c1,i,o⟩:=p j m
 refine⟨l,?_⟩
 by_cases e:l=g
 · subst e
   have q:xs.length=k.length:=by
    unfold Own at ho o
    rw [ho] at o
    injection o with o
    injection o with o
    have:=congrArg Array.size o
    simpa [Zds] using this
   exact⟨ys,d,a,(Zcl f hg c).trans c1,by omega,ho'⟩
 · exact⟨k,d,a,(Zcl f hg c).trans c1,i,o.grown hg e⟩
theorem Zk7{H:Type}{enc:TypeId×Value->H}{W:World}{n:Nat}{a:Option Addr}{len cap:Nat}{x:DataW H×List MemPlace}(h:DataW.trod enc Tryz.prog W 0 (fun _=>true) true n 156 [.slice a len cap]=some x):
 ∃ls:List (List Int),len=ls.length/\ZS W a ls/\ls.length<=maxLen/\∀i,(cn ls i).length<=maxLen:=by
 rcases open_slice1 Tryz.underlying156 (by kernel_rfl) h with ⟨hcs,_⟩ | ⟨A,l,c,m,k,V,D,P0,hcs,_,hl,hm,hmm,_,hall⟩
 · simp at hcs
   obtain⟨rfl,rfl,rfl⟩:=hcs
   exact⟨[],rfl,Or.inl rfl,Nat.zero_le _,fun i=>by simp [cn]⟩
 · simp at hcs
   obtain⟨rfl,rfl,rfl⟩:=hcs
   simp at hmm
   subst hmm
   have p:∀i,i<len->∃q:List Int,(∃g j,W.cell? (A.add i)=some (.slice g q.length j)/\Zy W g q)/\q.length<=maxLen:=by
    intro i d
    obtain⟨B,y⟩:=hall i (by omega)
    obtain⟨z,g,j,s,r,C⟩:=Zfp y
    exact⟨z,⟨g,j,by rw [B,s],r⟩,C⟩
   obtain⟨q,u⟩:=choose_lt p
   have f:((List.range len).map q).length=len:=by simp
   have Zx:∀i,i<len->cn ((List.range len).map q) i=q i:=fun i d=>by simp [cn,List.getD,d]
   refine⟨(List.range len).map q,f.symm,?_,by rw [f];omega,fun i=>?_⟩
   · rcases Nat.eq_zero_or_pos len with h0 | h0
     · subst h0;exact Or.inl (by simp)
     · obtain⟨b,t,o⟩:=A
       obtain⟨⟨g,j,w,_⟩,_⟩:=u 0 h0
       have e:o=none:=by simpa [Addr.add] using World.cell?_spot w
       subst e
       refine Or.inr ⟨b,t,rfl,by simpa [Addr.add] using Zcn w,fun i d=>?_⟩
       rw [f] at d
       rw [Zx i d]
       obtain⟨⟨g,j,v,r⟩,_⟩:=u i d
       rw [Go.WideShapes.add_plain] at v
       exact⟨g,j,v,r⟩
   · rcases Nat.lt_or_ge i len with d | d
     · rw [Zx i d];exact (u i d).2
     · simp [cn,List.getD,d]
end Go.Proofs.YtilkaeclgmcolaaGreat
namespace Go.Proofs.YtilkaeclgmcolaaGreat
open Go Go.RowKit
theorem ZkG(ao:Option Addr)(n cap:Nat)(left:Int)(w:World)(hn:n<=maxLen)(h0:0<=left)(h:left<n):
 Calls Tryz.prog 186 #[.slice ao n cap,.int .i64 left] w fun e w'=>e=.returned (.int .i64 (-1))/\w'=w:=by
 unfold maxLen at hn
 have a:left-n<0:=by omega
 go_enter Tryz.func186,Tryz.ntmps186
 go_wp2
 go_ret
 exact⟨rfl,rfl⟩
theorem Zl8(ao:Option Addr)(cap:Nat)(left:Int)(w:World)(h0:0<=left)(h1:left<=1048576):
 Calls Tryz.prog 186 #[.slice ao 0 cap,.int .i64 left] w fun e w'=>e=.returned (.int .i64 left)/\w'=w:=by
 have a:¬left<0:=by omega
 go_enter Tryz.func186,Tryz.ntmps186
 go_wp2
 refine wp_loop_rounds 1 ?_
 rw [rounds_succ]
 go_wp2
 go_ret
 exact⟨rfl,rfl⟩
end Go.Proofs.YtilkaeclgmcolaaGreat
namespace Go.Proofs.YtilkaeclgmcolaaGreat
open Go Go.RowKit Go.Deep
end Go.Proofs.YtilkaeclgmcolaaGreat
namespace Go.Proofs.YtilkaeclgmcolaaGreat
open Go Go.RowKit
theorem Zn9(ao ao':Option Addr)(n n' cap cap':Nat)(w:World)(h:n≠n'):
 Calls Tryz.prog 157 #[.slice ao n cap,.slice ao' n' cap'] w fun e w'=>e=.returned (.bool false)/\w'=w:=by
 have a:((n:Int) !=(n':Int))=true:=by simp;omega
 go_enter Tryz.func157,Tryz.ntmps157
 go_wp2
 go_ret
 exact⟨rfl,rfl⟩
theorem Zim(ao ao':Option Addr)(cap cap':Nat)(w:World):
 Calls Tryz.prog 157 #[.slice ao 0 cap,.slice ao' 0 cap'] w fun e w'=>e=.returned (.bool true)/\w'=w:=by
 go_enter Tryz.func157,Tryz.ntmps157
 go_wp2
 refine wp_loop_rounds 1 ?_
 rw [rounds_succ]
 go_wp2
 go_ret
 exact⟨rfl,rfl⟩
theorem ZmN(b off cap b' off' cap':Nat)(xs ys:List Int)(w:World)(hs:Seg w b off xs)(hs':Seg w b' off' ys)(hn:xs.length<=1048576)(hl:xs.length=ys.length):
 Calls Tryz.prog 157 #[.slice (some ⟨b,off,none⟩) xs.length cap,.slice (some ⟨b',off',none⟩) ys.length cap'] w fun e w'=>e=.returned (.bool (decide (xs=ys)))/\∃n,w'=w.drewN n:=by
 have m:((xs.length:Int) !=(ys.length:Int))=false:=by simp [hl]
 have l:Hid (xs.length=ys.length):=hl
 have o:ys.length<=1048576:=by omega
 clear hl
 go_enter Tryz.func157,Tryz.ntmps157
 go_wp2
 go_loopw [13] (fun i wr=>∃k:Nat,k<=xs.length/\i=.int .i64 k/\(∀j,j<k->nth xs j=nth ys j)/\∃n,wr=w.drewN n) (fun i _=>xs.length-(intOf i).toNat)
 case atStart=>exact⟨0,Nat.zero_le _,rfl,fun j p=>by omega,0,rfl⟩
 case round=>
  obtain⟨k,s,rfl,a,n,rfl⟩:=hrel
  have g:Hid (∀j,j<k->nth xs j=nth ys j):=a
  clear a
  by_cases hlt:k<xs.length
  · have r:=hs k hlt
    have c:k<ys.length:=by have:=l.out;omega
    have q:=hs' k c
    by_cases he:nth xs k=nth ys k
    · have f:(nth xs k !=nth ys k)=false:=by simp [he]
      have d:Hid (nth xs k=nth ys k):=he
      clear he
      go_wp2
      go_quiet (fail)
      go_wp2
      go_roundw
      case rel=>exact⟨k+1,by omega,by go_num,fun j p=>by
       rcases Nat.lt_or_ge j k with h | h
       · exact g.out j h
       · rw [show j=k by omega];exact d.out,_,rfl⟩
      case measure=>simp [intOf];omega
    · have f:(nth xs k !=nth ys k)=true:=by simp [he]
      have d:Hid (¬nth xs k=nth ys k):=he
      clear he
      go_wp2
      go_quiet (fail)
      go_wp2
      go_ret
      exact⟨Zd (Eq.symm (decide_eq_false (fun h=>d.out (by rw [h])))),n+nq,by simp⟩
  · go_wp2
    go_ret
    obtain rfl:k=xs.length:=by omega
    exact⟨Zd (Eq.symm (decide_eq_true (Zeh l.out g.out))),_,rfl⟩
theorem jeqS(ao ao':Option Addr)(cap cap':Nat)(xs ys:List Int)(w:World)(hv:Zy w ao xs)(hv':Zy w ao' ys)(hn:xs.length<=1048576):
 Calls Tryz.prog 157 #[.slice ao xs.length cap,.slice ao' ys.length cap'] w fun e w'=>e=.returned (.bool (decide (xs=ys)))/\∃n,w'=w.drewN n:=by
 by_cases hl:xs.length=ys.length
 · rcases hv with rfl | ⟨b,off,rfl,_,hs⟩
   · obtain rfl:ys=[]:=List.eq_nil_of_length_eq_zero (by simpa using hl.symm)
     refine (Zim ao ao' cap cap' w).mono ?_
     rintro e w' ⟨rfl,rfl⟩
     exact⟨rfl,0,rfl⟩
   · rcases hv' with rfl | ⟨b',off',rfl,_,hs'⟩
     · obtain rfl:xs=[]:=List.eq_nil_of_length_eq_zero (by simpa using hl)
       refine (Zim _ ao' cap cap' w).mono ?_
       rintro e w' ⟨rfl,rfl⟩
       exact⟨rfl,0,rfl⟩
     · exact ZmN b off cap b' off' cap' xs ys w hs hs' hn hl
 · refine (Zn9 ao ao' xs.length ys.length cap cap' w hl).mono ?_
   rintro e w' ⟨rfl,rfl⟩
   exact⟨Zd (Eq.symm (decide_eq_false (fun h=>hl (by rw [h])))),0,rfl⟩
end Go.Proofs.YtilkaeclgmcolaaGreat
