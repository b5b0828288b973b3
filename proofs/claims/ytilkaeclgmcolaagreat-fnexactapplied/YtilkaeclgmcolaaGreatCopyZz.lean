import Derived.Test.YtilkaeclgmcolaaGreatProg
import Derived.WalkKit
import Derived.WalkSpells
import Derived.WalkLawsBesides
import Derived.Deep.OwnRows
import Derived.Deep.QuietTactic
import Derived.BigQuiet
import Derived.Test.YtilkaeclgmcolaaGreatCellsZz
set_option maxHeartbeats 400000
namespace Go.Proofs.YtilkaeclgmcolaaGreat
open Go Go.RowKit
theorem Tryz.info2:(Tryz.prog.info? 2).map (fun i=>(i.zero,i.size,i.bytes))=some (some (.int .i64 0),1,8):=by kernel_rfl
theorem ZnK(b off cap:Nat)(xs:List Int)(w:World)(hs:Seg w b off xs)(hb:b<w.heap.size)(hn:xs.length<=1048576):
 Calls Tryz.prog 47 #[.slice (some ⟨b,off,none⟩) xs.length cap] w fun e w'=>e=.returned (.slice (some ⟨w.heap.size,0,none⟩) xs.length xs.length)/\w'=w.alloc (.cells (Zds xs) 2):=by
 have a:=run_make_row' (P:=Tryz.prog) 31 2 (.int .i64 0) 8 Tryz.underlying31 Tryz.info2 rfl .i64 .i64 xs.length (by omega) (by omega)
 go_enter Tryz.func47,Tryz.ntmps47
 go_wp2
 clear a
 go_loopw [4] (fun i wr=>∃k:Nat,k<=xs.length/\i=.int .i64 k/\wr=w.alloc (.cells (ZbS (nth xs) xs.length k) 2)) (fun i _=>xs.length-(intOf i).toNat)
 case atStart=>exact⟨0,Nat.zero_le _,rfl,by rw [ZeI]⟩
 case round=>
  obtain⟨k,f,rfl,rfl⟩:=hrel
  by_cases hlt:k<xs.length
  · have d:=hs k hlt
    have c:=ZeJ (nth xs) xs.length k hlt
    go_wp2
    go_roundw
    case rel=>exact⟨k+1,by omega,by go_num,by rw [<-Zfn (nth xs) xs.length k hlt]⟩
    case measure=>simp [intOf];omega
  · go_wp2
    go_ret
    obtain rfl:k=xs.length:=by omega
    exact⟨rfl,by rw [Zfo,ZkA]⟩
theorem ZnL(ao:Option Addr)(cap:Nat)(w:World):
 Calls Tryz.prog 47 #[.slice ao 0 cap] w fun e w'=>e=.returned (.slice (some ⟨w.heap.size,0,none⟩) 0 0)/\w'=w.alloc (.cells (Zds []) 2):=by
 have a:∀w,(Instr.makeSlice 31 (.int .i64 0) (.int .i64 0)).run Tryz.prog w=.ok (.slice (some ⟨w.heap.size,0,none⟩) 0 0) (w.alloc (.cells #[] 2)):=fun _=>by kernel_rfl
 go_enter Tryz.func47,Tryz.ntmps47
 go_wp2
 clear a
 refine wp_loop_rounds 1 ?_
 rw [rounds_succ]
 go_wp2
 go_ret
 exact⟨rfl,rfl⟩
theorem toS(ao:Option Addr)(cap:Nat)(xs:List Int)(w:World)(hv:Zy w ao xs)(hn:xs.length<=1048576):
 Calls Tryz.prog 47 #[.slice ao xs.length cap] w fun e w'=>∃b,e=.returned (.slice (some ⟨b,0,none⟩) xs.length xs.length)/\Own w' b xs/\w.heap.size<=b/\Below w.heap.size w w':=by
 rcases hv with rfl | ⟨b,off,rfl,hb,hs⟩
 · refine (ZnL ao cap w).mono ?_
   rintro e w' ⟨rfl,rfl⟩
   exact⟨_,rfl,Own.new w [],Nat.le_refl _,(Below.refl _ _).alloc (Nat.le_refl _) _⟩
 · refine (ZnK b off cap xs w hs hb hn).mono ?_
   rintro e w' ⟨rfl,rfl⟩
   exact⟨_,rfl,Own.new w xs,Nat.le_refl _,(Below.refl _ _).alloc (Nat.le_refl _) _⟩
theorem ZoX(ao ao':Option Addr)(n n' cap cap':Nat)(w:World)(h:n≠n'):
 Calls Tryz.prog 22 #[.slice ao n cap,.slice ao' n' cap'] w fun e w'=>e=.returned (.bool false)/\w'=w:=by
 have a:((n:Int) !=(n':Int))=true:=by simp;omega
 go_enter Tryz.func22,Tryz.ntmps22
 go_wp2
 go_ret
 exact⟨rfl,rfl⟩
theorem Zj2(ao ao':Option Addr)(cap cap':Nat)(w:World):
 Calls Tryz.prog 22 #[.slice ao 0 cap,.slice ao' 0 cap'] w fun e w'=>e=.returned (.bool true)/\w'=w:=by
 go_enter Tryz.func22,Tryz.ntmps22
 go_wp2
 refine wp_loop_rounds 1 ?_
 rw [rounds_succ]
 go_wp2
 go_ret
 exact⟨rfl,rfl⟩
theorem Zd{a b:Bool}(h:a=b):Ending.returned (.bool a)=.returned (.bool b):=by rw [h]
theorem ZnM(b off cap b' off' cap':Nat)(xs ys:List Int)(w:World)(hs:Seg w b off xs)(hs':Seg w b' off' ys)(hn:xs.length<=1048576)(hl:xs.length=ys.length):
 Calls Tryz.prog 22 #[.slice (some ⟨b,off,none⟩) xs.length cap,.slice (some ⟨b',off',none⟩) ys.length cap'] w fun e w'=>e=.returned (.bool (decide (xs=ys)))/\∃n,w'=w.drewN n:=by
 have m:((xs.length:Int) !=(ys.length:Int))=false:=by simp [hl]
 have l:Hid (xs.length=ys.length):=hl
 have o:ys.length<=1048576:=by omega
 clear hl
 go_enter Tryz.func22,Tryz.ntmps22
 go_wp2
 go_loopw [5] (fun i wr=>∃k:Nat,k<=xs.length/\i=.int .i64 k/\(∀j,j<k->nth xs j=nth ys j)/\∃n,wr=w.drewN n) (fun i _=>xs.length-(intOf i).toNat)
 case atStart=>exact⟨0,Nat.zero_le _,rfl,fun j p=>by omega,0,rfl⟩
 case round=>
  obtain⟨k,s,rfl,a,n,rfl⟩:=hrel
  have g:Hid (∀j,j<k->nth xs j=nth ys j):=a
  clear a
  by_cases hlt:k<xs.length
  · have r:=hs k hlt
    have c:k<ys.length:=by have:=l.out;omega
    have q:=hs' k c
    by_cases he:nth xs k=nth ys k
    · have f:(nth xs k !=nth ys k)=false:=by simp [he]
      have d:Hid (nth xs k=nth ys k):=he
      clear he
      go_wp2
      go_quiet (fail)
      go_wp2
      go_roundw
      case rel=>exact⟨k+1,by omega,by go_num,fun j p=>by
       rcases Nat.lt_or_ge j k with h | h
       · exact g.out j h
       · rw [show j=k by omega];exact d.out,_,rfl⟩
      case measure=>simp [intOf];omega
    · have f:(nth xs k !=nth ys k)=true:=by simp [he]
      have d:Hid (¬nth xs k=nth ys k):=he
      clear he
      go_wp2
      go_quiet (fail)
      go_wp2
      go_ret
      exact⟨Zd (Eq.symm (decide_eq_false (fun h=>d.out (by rw [h])))),n+nq,by simp⟩
  · go_wp2
    go_ret
    obtain rfl:k=xs.length:=by omega
    exact⟨Zd (Eq.symm (decide_eq_true (Zeh l.out g.out))),_,rfl⟩
theorem eqS(ao ao':Option Addr)(cap cap':Nat)(xs ys:List Int)(w:World)(hv:Zy w ao xs)(hv':Zy w ao' ys)(hn:xs.length<=1048576):
 Calls Tryz.prog 22 #[.slice ao xs.length cap,.slice ao' ys.length cap'] w fun e w'=>e=.returned (.bool (decide (xs=ys)))/\∃n,w'=w.drewN n:=by
 by_cases hl:xs.length=ys.length
 · rcases hv with rfl | ⟨b,off,rfl,_,hs⟩
   · obtain rfl:ys=[]:=List.eq_nil_of_length_eq_zero (by simpa using hl.symm)
     refine (Zj2 ao ao' cap cap' w).mono ?_
     rintro e w' ⟨rfl,rfl⟩
     exact⟨rfl,0,rfl⟩
   · rcases hv' with rfl | ⟨b',off',rfl,_,hs'⟩
     · obtain rfl:xs=[]:=List.eq_nil_of_length_eq_zero (by simpa using hl)
       refine (Zj2 _ ao' cap cap' w).mono ?_
       rintro e w' ⟨rfl,rfl⟩
       exact⟨rfl,0,rfl⟩
     · exact ZnM b off cap b' off' cap' xs ys w hs hs' hn hl
 · refine (ZoX ao ao' xs.length ys.length cap cap' w hl).mono ?_
   rintro e w' ⟨rfl,rfl⟩
   exact⟨Zd (Eq.symm (decide_eq_false (fun h=>hl (by rw [h])))),0,rfl⟩
theorem ZnN(ao:Option Addr)(n cap:Nat)(w:World)(h:n<1\/4<n)(hn:n<=1048576):
 Calls Tryz.prog 72 #[.slice ao n cap] w fun e w'=>e=.returned (.bool false)/\w'=w:=by
 rcases h with h | h
 · go_enter Tryz.func72,Tryz.ntmps72
   go_wp2
   go_ret
   exact⟨rfl,rfl⟩
 · have a:¬n<1:=by omega
   go_enter Tryz.func72,Tryz.ntmps72
   go_wp2
   go_ret
   exact⟨rfl,rfl⟩
theorem ZnO(b off cap:Nat)(xs:List Int)(w:World)(hs:Seg w b off xs)(h1:1<=xs.length)(h4:xs.length<=4):
 Calls Tryz.prog 72 #[.slice (some ⟨b,off,none⟩) xs.length cap] w fun e w'=>e=.returned (.bool (okB xs))/\w'=w:=by
 go_enter Tryz.func72,Tryz.ntmps72
 go_wp2
 go_loop [3] (fun i=>∃k:Nat,k<=xs.length/\i=.int .i64 k/\∀j,j<k-> -1000<=nth xs j/\nth xs j<=1000) (fun i=>xs.length-(intOf i).toNat)
 case atStart=>exact⟨0,Nat.zero_le _,rfl,fun j d=>by omega⟩
 case round=>
  obtain⟨k,g,rfl,a⟩:=hrel
  have c:Hid (∀j,j<k-> -1000<=nth xs j/\nth xs j<=1000):=a
  clear a
  by_cases hlt:k<xs.length
  · have f:=hs k hlt
    by_cases ha:-1000<=nth xs k
    · by_cases hb:nth xs k<=1000
      · go_wp2
        go_round
        case rel=>exact⟨k+1,by omega,by go_num,fun j d=>by
         rcases Nat.lt_or_ge j k with h | h
         · exact c.out j h
         · rw [show j=k by omega];exact⟨ha,hb⟩⟩
        case measure=>simp [intOf];omega
      · go_wp2
        go_ret
        exact⟨Zd (Eq.symm (Zj3 k (by omega))),rfl⟩
    · go_wp2
      go_ret
      exact⟨Zd (Eq.symm (Zj3 k (by omega))),rfl⟩
  · go_wp2
    go_ret
    obtain rfl:k=xs.length:=by omega
    exact⟨Zd (Eq.symm (ZoY h1 h4 c.out)),rfl⟩
theorem sOk(ao:Option Addr)(cap:Nat)(xs:List Int)(w:World)(hv:Zy w ao xs)(hn:xs.length<=1048576):
 Calls Tryz.prog 72 #[.slice ao xs.length cap] w fun e w'=>e=.returned (.bool (okB xs))/\w'=w:=by
 by_cases h:1<=xs.length/\xs.length<=4
 · rcases hv with rfl | ⟨b,off,rfl,_,hs⟩
   · simp at h
   · exact ZnO b off cap xs w hs h.1 h.2
 · refine (ZnN ao xs.length cap w (by omega) hn).mono ?_
   rintro e w' ⟨rfl,rfl⟩
   refine⟨Zd ?_,rfl⟩
   rcases Nat.lt_or_ge xs.length 1 with h1 | h1
   · exact (ZkC h1).symm
   · exact (ZlS (by omega)).symm
def ZcU(lo hi:Int)(xs:List Int):Bool:=decide (1<=xs.length) && decide (xs.length<=4) && xs.all (fun x=>decide (lo<=x) && decide (x<=hi))
theorem ZlT{lo hi:Int}{xs:List Int}(h:ZcU lo hi xs=true){i:Nat}(hi':i<xs.length):lo<=nth xs i/\nth xs i<=hi:=by
 simp only [ZcU,Bool.and_eq_true,List.all_eq_true,decide_eq_true_eq] at h
 have:=h.2 xs[i] (List.getElem_mem hi')
 simpa [nth,List.getD,hi'] using this
theorem ZlU{lo hi:Int}{xs:List Int}(h1:1<=xs.length)(h4:xs.length<=4)(h:∀i,i<xs.length->lo<=nth xs i/\nth xs i<=hi):ZcU lo hi xs=true:=by
 simp only [ZcU,Bool.and_eq_true,List.all_eq_true,decide_eq_true_eq]
 refine⟨⟨h1,h4⟩,fun x a=>?_⟩
 obtain⟨i,hi,rfl⟩:=List.getElem_of_mem a
 have:=h i hi
 simpa [nth,List.getD,hi] using this
theorem ZhE{lo hi:Int}{xs:List Int}(h:xs.length<1):ZcU lo hi xs=false:=by simp [ZcU];omega
theorem ZiZ{lo hi:Int}{xs:List Int}(h:4<xs.length):ZcU lo hi xs=false:=by simp [ZcU];omega
theorem Zgk{lo hi:Int}{xs:List Int}(i:Nat)(hl:i<xs.length)(h:nth xs i<lo\/hi<nth xs i):ZcU lo hi xs=false:=by
 rcases hb:ZcU lo hi xs with _ | _
 · rfl
 · have:=ZlT hb hl;omega
theorem Zi0(lo hi:Int)(ao:Option Addr)(n cap:Nat)(w:World)(h:n<1\/4<n)(hn:n<=1048576):
 Calls Tryz.prog 218 #[.slice ao n cap,.int .i64 lo,.int .i64 hi] w fun e w'=>e=.returned (.bool false)/\w'=w:=by
 rcases h with h | h
 · go_enter Tryz.func218,Tryz.ntmps218
   go_wp2
   go_ret
   exact⟨rfl,rfl⟩
 · have a:¬n<1:=by omega
   go_enter Tryz.func218,Tryz.ntmps218
   go_wp2
   go_ret
   exact⟨rfl,rfl⟩
theorem Zi1(lo hi:Int)(b off cap:Nat)(xs:List Int)(w:World)(hs:Seg w b off xs)(h1:1<=xs.length)(h4:xs.length<=4):
 Calls Tryz.prog 218 #[.slice (some ⟨b,off,none⟩) xs.length cap,.int .i64 lo,.int .i64 hi] w fun e w'=>e=.returned (.bool (ZcU lo hi xs))/\w'=w:=by
 go_enter Tryz.func218,Tryz.ntmps218
 go_wp2
 go_loop [19] (fun i=>∃k:Nat,k<=xs.length/\i=.int .i64 k/\∀j,j<k->lo<=nth xs j/\nth xs j<=hi) (fun i=>xs.length-(intOf i).toNat)
 case atStart=>exact⟨0,Nat.zero_le _,rfl,fun j d=>by omega⟩
 case round=>
  obtain⟨k,g,rfl,a⟩:=hrel
  have c:Hid (∀j,j<k->lo<=nth xs j/\nth xs j<=hi):=a
  clear a
  by_cases hlt:k<xs.length
  · have f:=hs k hlt
    by_cases ha:lo<=nth xs k
    · by_cases hb:nth xs k<=hi
      · go_wp2
        go_round
        case rel=>exact⟨k+1,by omega,by go_num,fun j d=>by
         rcases Nat.lt_or_ge j k with h | h
         · exact c.out j h
         · rw [show j=k by omega];exact⟨ha,hb⟩⟩
        case measure=>simp [intOf];omega
      · go_wp2
        go_ret
        exact⟨Zd (Eq.symm (Zgk k hlt (by omega))),rfl⟩
    · go_wp2
      go_ret
      exact⟨Zd (Eq.symm (Zgk k hlt (by omega))),rfl⟩
  · go_wp2
    go_ret
    obtain rfl:k=xs.length:=by omega
    exact⟨Zd (Eq.symm (ZlU h1 h4 c.out)),rfl⟩
theorem ZoZ(lo hi:Int)(ao:Option Addr)(cap:Nat)(xs:List Int)(w:World)(hv:Zy w ao xs)(hn:xs.length<=1048576):
 Calls Tryz.prog 218 #[.slice ao xs.length cap,.int .i64 lo,.int .i64 hi] w fun e w'=>e=.returned (.bool (ZcU lo hi xs))/\w'=w:=by
 by_cases h:1<=xs.length/\xs.length<=4
 · rcases hv with rfl | ⟨b,off,rfl,_,hs⟩
   · simp at h
   · exact Zi1 lo hi b off cap xs w hs h.1 h.2
 · refine (Zi0 lo hi ao xs.length cap w (by omega) hn).mono ?_
   rintro e w' ⟨rfl,rfl⟩
   refine⟨Zd ?_,rfl⟩
   rcases Nat.lt_or_ge xs.length 1 with h1 | h1
   · exact (ZhE h1).symm
   · exact (ZiZ (by omega)).symm
theorem pOk(ao:Option Addr)(cap:Nat)(xs:List Int)(w:World)(hv:Zy w ao xs)(hn:xs.length<=1048576):
 Calls Tryz.prog 201 #[.slice ao xs.length cap] w fun e w'=>e=.returned (.bool (okB xs))/\w'=w:=by
 go_enter Tryz.func201,Tryz.ntmps201
 go_wp2_with (go_at_call 218;refine (ZoZ (-1000) 1000 ao cap xs _ hv hn).mono ?_;rintro e w' ⟨rfl,rfl⟩)
 go_ret
 exact⟨rfl,rfl⟩
theorem iOk(ao:Option Addr)(cap:Nat)(xs:List Int)(w:World)(hv:Zy w ao xs)(hn:xs.length<=1048576):
 Calls Tryz.prog 180 #[.slice ao xs.length cap] w fun e w'=>e=.returned (.bool (okB xs))/\w'=w:=by
 go_enter Tryz.func180,Tryz.ntmps180
 go_wp2_with (go_at_call 201;refine (pOk ao cap xs _ hv hn).mono ?_;rintro e w' ⟨rfl,rfl⟩)
 go_ret
 exact⟨rfl,rfl⟩
theorem ZK{a b:Int}(h:a=b):Ending.returned (.int .i64 a)=.returned (.int .i64 b):=by rw [h]
theorem sTwo(ao ao':Option Addr)(cap cap':Nat)(xs ys:List Int)(w:World)(hv:Zy w ao xs)(hv':Zy w ao' ys)(hn:xs.length<=1048576)(hn':ys.length<=1048576):
 Calls Tryz.prog 239 #[.slice ao xs.length cap,.slice ao' ys.length cap'] w fun e w'=>e=.returned (.bool (Zb0 xs ys))/\w'=w:=by
 rcases ha:okB xs with _ | _
 · have c:=Zgl (b:=ys) ha
   go_enter Tryz.func239,Tryz.ntmps239
   go_wp2_with (go_at_call 72;refine (sOk ao cap xs _ hv hn).mono ?_;rintro e w' ⟨rfl,rfl⟩)
   go_ret
   exact⟨Zd (by simp [c]),rfl⟩
 · rcases hb:okB ys with _ | _
   · have c:=Zfq (a:=xs) hb
     go_enter Tryz.func239,Tryz.ntmps239
     go_wp2_with fail
     refine (sOk ao cap xs _ hv hn).mono ?_
     rintro e w' ⟨rfl,rfl⟩
     go_wp2_with fail
     refine (sOk ao' cap' ys _ hv' hn').mono ?_
     rintro e w' ⟨rfl,rfl⟩
     go_wp2_with fail
     go_ret
     exact⟨Zd (by simp [c]),rfl⟩
   · by_cases hl:xs.length=ys.length
     · have c:=Zei ha hb hl
       have d:((xs.length:Int) ==(ys.length:Int))=true:=by simp [hl]
       clear hl
       go_enter Tryz.func239,Tryz.ntmps239
       go_wp2_with fail
       refine (sOk ao cap xs _ hv hn).mono ?_
       rintro e w' ⟨rfl,rfl⟩
       go_wp2_with fail
       refine (sOk ao' cap' ys _ hv' hn').mono ?_
       rintro e w' ⟨rfl,rfl⟩
       go_wp2_with fail
       go_ret
       exact⟨Zd (by simp [c]),rfl⟩
     · have c:=ZhF hl
       have d:((xs.length:Int) ==(ys.length:Int))=false:=by simp;omega
       clear hl
       go_enter Tryz.func239,Tryz.ntmps239
       go_wp2_with fail
       refine (sOk ao cap xs _ hv hn).mono ?_
       rintro e w' ⟨rfl,rfl⟩
       go_wp2_with fail
       refine (sOk ao' cap' ys _ hv' hn').mono ?_
       rintro e w' ⟨rfl,rfl⟩
       go_wp2_with fail
       go_ret
       exact⟨Zd (by simp [c]),rfl⟩
theorem sFar(ao ao':Option Addr)(cap cap':Nat)(xs ys:List Int)(w:World)(hv:Zy w ao xs)(hv':Zy w ao' ys)(hn:xs.length<=1048576)(hn':ys.length<=1048576):
 Calls Tryz.prog 222 #[.slice ao xs.length cap,.slice ao' ys.length cap'] w fun e w'=>e=.returned (.int .i64 (Zbj xs ys))/\∃n,w'=w.drewN n:=by
 rcases ht:Zb0 xs ys with _ | _
 · have p:Zbj xs ys= -1:=by simp [Zbj,ht]
   go_enter Tryz.func222,Tryz.ntmps222
   go_wp2_with fail
   refine (sTwo ao ao' cap cap' xs ys _ hv hv' hn hn').mono ?_
   rintro e w' ⟨rfl,rfl⟩
   go_wp2_with fail
   go_ret
   exact⟨ZK p.symm,0,rfl⟩
 · obtain⟨m,q,j⟩:=Zd0 ht
   have r:=ZaP m
   have p:Hid (Zbj xs ys=ZH (sqF xs ys) xs.length):=by show Zbj xs ys=_;simp [Zbj,ht]
   obtain⟨b,a,rfl,o,x⟩:∃b a,ao=some ⟨b,a,none⟩/\b<w.heap.size/\Seg w b a xs:=by
    rcases hv with rfl | h
    · simp at r
    · exact h
   obtain⟨v,c,rfl,f,g⟩:∃b a,ao'=some ⟨b,a,none⟩/\b<w.heap.size/\Seg w b a ys:=by
    rcases hv' with rfl | h
    · simp at j;rw [j] at r;simp at r
    · exact h
   have A:Hid (xs.length=ys.length):=j
   clear j
   go_enter Tryz.func222,Tryz.ntmps222
   go_wp2_with fail
   refine (sTwo _ _ cap cap' xs ys _ (Or.inr ⟨b,a,rfl,o,x⟩) (Or.inr ⟨v,c,rfl,f,g⟩) hn hn').mono ?_
   rintro e w' ⟨rfl,rfl⟩
   go_wp2_with fail
   go_loopw [5,6] (fun s i wr=>∃k:Nat,k<=xs.length/\i=.int .i64 k/\s=.int .i64 (ZH (sqF xs ys) k)/\∃n,wr=w'.drewN n) (fun _ i _=>xs.length-(intOf i).toNat)
   case atStart=>exact⟨0,Nat.zero_le _,rfl,rfl,0,rfl⟩
   case round=>
    obtain⟨k,F,rfl,rfl,t⟩:=hrel
    have l:Hid (∃n,wr=w'.drewN n):=t
    clear t
    by_cases hlt:k<xs.length
    · have D:wr.cell? ⟨b,a+k,none⟩=some (.int .i64 (nth xs k)):=by obtain⟨n,rfl⟩:=l.out;exact x k hlt
      have d:k<ys.length:=by have:=A.out;omega
      have y:wr.cell? ⟨v,c+k,none⟩=some (.int .i64 (nth ys k)):=by obtain⟨n,rfl⟩:=l.out;exact g k d
      have E:=ZcI m k
      have C:=ZcI q k
      have B:=ZgZ m q k
      have u:=Zce (sqF xs ys) 0 4000000 (ZgZ m q) k
      have z:Hid (ZH (sqF xs ys) (k+1)=ZH (sqF xs ys) k+(nth xs k-nth ys k)*(nth xs k-nth ys k)):=rfl
      unfold sqF at B
      go_wp2
      go_quiet (fail)
      go_wp2
      go_roundw
      case rel=>exact⟨k+1,by omega,by go_num,by rw [z.out],by obtain⟨n,hn⟩:=l.out;exact⟨n+nq,by rw [hn];simp⟩⟩
      case measure=>simp [intOf];omega
    · go_wp2
      go_ret
      obtain rfl:k=xs.length:=by omega
      exact⟨ZK p.out.symm,l.out⟩
theorem ZlV(ao ao':Option Addr)(cap cap':Nat)(xs ys:List Int)(w:World)(hv:Zy w ao xs)(hv':Zy w ao' ys)(hn:xs.length<=1048576)(hn':ys.length<=1048576):
 Calls Tryz.prog 259 #[.slice ao xs.length cap,.slice ao' ys.length cap'] w fun e w'=>e=.returned (.bool (Zb0 xs ys))/\w'=w:=by
 by_cases hl:xs.length=ys.length
 · have d:((xs.length:Int) ==(ys.length:Int))=true:=by simp [hl]
   rcases ha:okB xs with _ | _
   · have c:=Zgl (b:=ys) ha
     clear hl
     go_enter Tryz.func259,Tryz.ntmps259
     go_wp2_with (go_at_call 201;refine (pOk ao cap xs _ hv hn).mono ?_;rintro e w' ⟨rfl,rfl⟩)
     go_ret
     exact⟨Zd (by simp [c]),rfl⟩
   · rcases hb:okB ys with _ | _
     · have c:=Zfq (a:=xs) hb
       clear hl
       go_enter Tryz.func259,Tryz.ntmps259
       go_wp2_with fail
       refine (pOk ao cap xs _ hv hn).mono ?_
       rintro e w' ⟨rfl,rfl⟩
       go_wp2_with fail
       refine (pOk ao' cap' ys _ hv' hn').mono ?_
       rintro e w' ⟨rfl,rfl⟩
       go_wp2_with fail
       go_ret
       exact⟨Zd (by simp [c]),rfl⟩
     · have c:=Zei ha hb hl
       clear hl
       go_enter Tryz.func259,Tryz.ntmps259
       go_wp2_with fail
       refine (pOk ao cap xs _ hv hn).mono ?_
       rintro e w' ⟨rfl,rfl⟩
       go_wp2_with fail
       refine (pOk ao' cap' ys _ hv' hn').mono ?_
       rintro e w' ⟨rfl,rfl⟩
       go_wp2_with fail
       go_ret
       exact⟨Zd (by simp [c]),rfl⟩
 · have c:=ZhF hl
   have d:((xs.length:Int) ==(ys.length:Int))=false:=by simp;omega
   clear hl
   go_enter Tryz.func259,Tryz.ntmps259
   go_wp2_with fail
   go_ret
   exact⟨Zd (by simp [c]),rfl⟩
theorem Zo0(b off cap:Nat)(xs:List Int)(w:World)(hs:Seg w b off xs)(hn:xs.length<=4)(hbd:∀i,-4000000<=nth xs i/\nth xs i<=4000000):
 Calls Tryz.prog 262 #[.slice (some ⟨b,off,none⟩) xs.length cap] w fun e w'=>e=.returned (.int .i64 (ZH (nth xs) xs.length))/\w'=w:=by
 have a:Hid (∀i,-4000000<=nth xs i/\nth xs i<=4000000):=hbd
 clear hbd
 go_enter Tryz.func262,Tryz.ntmps262
 go_wp2
 go_loop [3,8] (fun s i=>∃k:Nat,k<=xs.length/\i=.int .i64 k/\s=.int .i64 (ZH (nth xs) k)) (fun _ i=>xs.length-(intOf i).toNat)
 case atStart=>exact⟨0,Nat.zero_le _,rfl,rfl⟩
 case round=>
  obtain⟨k,h,rfl,rfl⟩:=hrel
  by_cases hlt:k<xs.length
  · have f:=hs k hlt
    have g:=a.out k
    have c:=Zce (nth xs) (-4000000) 4000000 a.out k
    have d:Hid (ZH (nth xs) (k+1)=ZH (nth xs) k+nth xs k):=rfl
    go_wp2
    go_round
    case rel=>exact⟨k+1,by omega,by go_num,by rw [d.out]⟩
    case measure=>simp [intOf];omega
  · go_wp2
    go_ret
    obtain rfl:k=xs.length:=by omega
    exact⟨rfl,rfl⟩
theorem ZnP(b off cap k:Nat)(x:Int)(xs:List Int)(w:World)(hs:Seg w b off xs)(hk:k<xs.length)(h1:-1000<=nth xs k)(h2:nth xs k<=1000)(h3:-1000<=x)(h4:x<=1000):
 Calls Tryz.prog 261 #[.slice (some ⟨b,off,none⟩) xs.length cap,.int .i64 k,.int .i64 x] w fun e w'=>e=.returned (.int .i64 ((nth xs k-x)*(nth xs k-x)))/\∃n,w'=w.drewN n:=by
 have c:=hs k hk
 have a:=ZlW (x:=nth xs k-x) (y:=nth xs k-x) (m:=2000) (by omega) (by omega) (by omega)
 go_enter Tryz.func261,Tryz.ntmps261
 go_wp2
 go_quiet (fail)
 go_wp2
 go_ret
 exact⟨rfl,_,rfl⟩
theorem ZhG(g:Nat->Int)(b off cap b' off' cap' n:Nat)(xs ys:List Int)(w:World)(hs:Seg w b off xs)(hs':Seg w b' off' ys)(hb:b<w.heap.size)(hb':b'<w.heap.size)(hn:ys.length<=4)
 (hcall:∀(W:World) (k:Nat),k<ys.length->Seg W b off xs->Calls Tryz.prog 261 #[.slice (some ⟨b,off,none⟩) n cap,.int .i64 k,.int .i64 (nth ys k)] W fun e w'=>e=.returned (.int .i64 (g k))/\∃m,w'=W.drewN m):
 Calls Tryz.prog 260 #[.slice (some ⟨b',off',none⟩) ys.length cap',.func (Fn.func 261) #[.slice (some ⟨b,off,none⟩) n cap] #[]] w fun e w'=>
  e=.returned (.slice (some ⟨w.heap.size,0,none⟩) ys.length ys.length)/\Own w' w.heap.size (ZaE g ys.length)/\Below w.heap.size w w':=by
 have c:=run_make_row' (P:=Tryz.prog) 128 2 (.int .i64 0) 8 Tryz.underlying128 Tryz.info2 rfl .i64 .i64 ys.length (by omega) (by omega)
 have f:Hid (∀(W:World) (k:Nat),k<ys.length->Seg W b off xs->Calls Tryz.prog 261 #[.slice (some ⟨b,off,none⟩) n cap,.int .i64 k,.int .i64 (nth ys k)] W fun e w'=>e=.returned (.int .i64 (g k))/\∃m,w'=W.drewN m):=hcall
 clear hcall
 go_enter Tryz.func260,Tryz.ntmps260
 go_wp2
 clear c
 go_loopw [13] (fun i wr=>∃k:Nat,k<=ys.length/\i=.int .i64 k/\∃m,wr=(w.alloc (.cells (ZbS g ys.length k) 2)).drewN m) (fun i _=>ys.length-(intOf i).toNat)
 case atStart=>exact⟨0,Nat.zero_le _,rfl,0,by rw [ZeI];rfl⟩
 case round=>
  obtain⟨k,l,rfl,m,rfl⟩:=hrel
  by_cases hlt:k<ys.length
  · have j:=hs' k hlt
    have a:=ZeJ g ys.length k hlt
    go_wp2_with fail
    refine (f.out _ k hlt ((hs.alloc hb _).drewN m)).mono ?_
    rintro e h ⟨rfl,d,rfl⟩
    go_wp2
    go_roundw
    case rel=>exact⟨k+1,by omega,by go_num,m+d,by rw [<-Zfn g ys.length k hlt,ZnG]⟩
    case measure=>simp [intOf];omega
  · go_wp2
    go_ret
    obtain rfl:k=ys.length:=by omega
    refine⟨rfl,?_,?_⟩
    · rw [Zfo];exact (Own.new w _).drewN m
    · exact below_drewN ((Below.refl _ _).alloc (Nat.le_refl _) _) m
theorem ZnQ(g:Nat->Int)(n:Nat):ZH (nth (ZaE g n)) (ZaE g n).length=ZH g n:=by
 rw [ZE];exact Zc1 _ _ _ (fun i a=>Zeg g n i a)
theorem Zo1(g:Nat->Int)(n:Nat)(lo hi:Int)(h0:lo<=0)(h1:0<=hi)(h:∀i,lo<=g i/\g i<=hi)(i:Nat):lo<=nth (ZaE g n) i/\nth (ZaE g n) i<=hi:=by
 by_cases hi:i<n
 · rw [Zeg g n i hi];exact h i
 · have:nth (ZaE g n) i=0:=by simp [nth,ZaE,List.getD,hi]
   rw [this];exact⟨h0,h1⟩
theorem pFar(b off cap b' off' cap':Nat)(xs ys:List Int)(w:World)(hs:Seg w b off xs)(hs':Seg w b' off' ys)(hb:b<w.heap.size)(hb':b'<w.heap.size)(ht:Zb0 xs ys=true):
 Calls Tryz.prog 245 #[.slice (some ⟨b,off,none⟩) xs.length cap,.slice (some ⟨b',off',none⟩) ys.length cap'] w fun e w'=>e=.returned (.int .i64 (ZH (sqF xs ys) xs.length))/\Below w.heap.size w w':=by
 obtain⟨j,c,f⟩:=Zd0 ht
 have l:=ZaP c
 have n:Hid (ZH (nth (ZaE (sqF xs ys) ys.length)) (ZaE (sqF xs ys) ys.length).length=ZH (sqF xs ys) xs.length):=by
  show _=_
  rw [ZnQ,f]
 have d:Hid (xs.length=ys.length):=f
 have g:Hid ((ZaE (sqF xs ys) ys.length).length=ys.length):=ZE _ _
 clear f
 go_enter Tryz.func245,Tryz.ntmps245
 go_wp2_with fail
 refine (ZhG (sqF xs ys) b off cap b' off' cap' xs.length xs ys _ hs hs' hb hb' l.2 (fun W k r o=>?_)).mono ?_
 · have m:=ZcI j k
   have h:=ZcI c k
   exact ZnP b off cap k (nth ys k) xs W o (by rw [d.out];exact r) m.1 m.2 h.1 h.2
 rintro e p ⟨rfl,s,q⟩
 go_wp2_with fail
 have a:=Zo0 w.heap.size 0 ys.length (ZaE (sqF xs ys) ys.length) p s.seg (by rw [g.out];exact l.2) (Zo1 _ _ (-4000000) 4000000 (by omega) (by omega) (fun i=>by have:=ZgZ j c i;omega))
 rw [g.out,<-d.out] at a
 rw [<-d.out]
 refine a.mono ?_
 rintro e t ⟨rfl,rfl⟩
 go_wp2_with fail
 go_ret
 exact⟨ZK (by have:=n.out;rwa [g.out,<-d.out] at this),q⟩
theorem mFar(ao ao':Option Addr)(cap cap':Nat)(xs ys:List Int)(w:World)(r:Int)(hv:Zy w ao xs)(hv':Zy w ao' ys)(hn:xs.length<=1048576)(hn':ys.length<=1048576):
 Calls Tryz.prog 244 #[.slice ao xs.length cap,.slice ao' ys.length cap',.func (Fn.func 245) #[] #[],.int .i64 r] w fun e w'=>e=.returned (.int .i64 (if Zb0 xs ys=true then ZH (sqF xs ys) xs.length else r))/\Below w.heap.size w w':=by
 rcases ht:Zb0 xs ys with _ | _
 · go_enter Tryz.func244,Tryz.ntmps244
   go_wp2_with fail
   refine (ZlV ao ao' cap cap' xs ys _ hv hv' hn hn').mono ?_
   rintro e o ⟨rfl,rfl⟩
   go_wp2_with fail
   go_ret
   exact⟨ZK (by simp),Below.refl _ _⟩
 · obtain⟨k,n,j⟩:=Zd0 ht
   have i:=ZaP k
   obtain⟨b,a,rfl,f,m⟩:∃b a,ao=some ⟨b,a,none⟩/\b<w.heap.size/\Seg w b a xs:=by
    rcases hv with rfl | h
    · simp at i
    · exact h
   obtain⟨l,d,rfl,c,g⟩:∃b a,ao'=some ⟨b,a,none⟩/\b<w.heap.size/\Seg w b a ys:=by
    rcases hv' with rfl | h
    · simp at j;rw [j] at i;simp at i
    · exact h
   clear k n j i
   go_enter Tryz.func244,Tryz.ntmps244
   go_wp2_with fail
   refine (ZlV _ _ cap cap' xs ys _ (Or.inr ⟨b,a,rfl,f,m⟩) (Or.inr ⟨l,d,rfl,c,g⟩) hn hn').mono ?_
   rintro e o ⟨rfl,rfl⟩
   go_wp2_with fail
   refine (pFar b a cap l d cap' xs ys _ m g f c ht).mono ?_
   rintro e q ⟨rfl,p⟩
   go_wp2_with fail
   go_ret
   exact⟨ZK (by simp),p⟩
theorem iFar(ao ao':Option Addr)(cap cap':Nat)(xs ys:List Int)(w:World)(hv:Zy w ao xs)(hv':Zy w ao' ys)(hn:xs.length<=1048576)(hn':ys.length<=1048576):
 Calls Tryz.prog 228 #[.slice ao xs.length cap,.slice ao' ys.length cap'] w fun e w'=>e=.returned (.int .i64 (Zbj xs ys))/\Below w.heap.size w w':=by
 go_enter Tryz.func228,Tryz.ntmps228
 go_wp2_with fail
 refine (mFar ao ao' cap cap' xs ys _ (-1) hv hv' hn hn').mono ?_
 rintro e c ⟨rfl,a⟩
 have b:Hid (Zbj xs ys=if Zb0 xs ys=true then ZH (sqF xs ys) xs.length else -1):=rfl
 generalize (if Zb0 xs ys=true then ZH (sqF xs ys) xs.length else -1)=r at *
 go_wp2_with fail
 go_ret
 exact⟨ZK b.out.symm,a⟩
theorem ZkD(ao ao':Option Addr)(n n' cap cap':Nat)(w:World)(h:n≠n'):
 Calls Tryz.prog 117 #[.slice ao n cap,.slice ao' n' cap'] w fun e w'=>e=.returned (.bool false)/\w'=w:=by
 have a:((n:Int) !=(n':Int))=true:=by simp;omega
 go_enter Tryz.func117,Tryz.ntmps117
 go_wp2
 go_ret
 exact⟨rfl,rfl⟩
theorem Zfr(ao ao':Option Addr)(cap cap':Nat)(w:World):
 Calls Tryz.prog 117 #[.slice ao 0 cap,.slice ao' 0 cap'] w fun e w'=>e=.returned (.bool true)/\w'=w:=by
 go_enter Tryz.func117,Tryz.ntmps117
 go_wp2
 refine wp_loop_rounds 1 ?_
 rw [rounds_succ]
 go_wp2
 go_ret
 exact⟨rfl,rfl⟩
theorem Zi2(b off cap b' off' cap':Nat)(xs ys:List Int)(w:World)(hs:Seg w b off xs)(hs':Seg w b' off' ys)(hn:xs.length<=1048576)(hl:xs.length=ys.length):
 Calls Tryz.prog 117 #[.slice (some ⟨b,off,none⟩) xs.length cap,.slice (some ⟨b',off',none⟩) ys.length cap'] w fun e w'=>e=.returned (.bool (decide (xs=ys)))/\∃n,w'=w.drewN n:=by
 have m:((xs.length:Int) !=(ys.length:Int))=false:=by simp [hl]
 have l:Hid (xs.length=ys.length):=hl
 have o:ys.length<=1048576:=by omega
 clear hl
 go_enter Tryz.func117,Tryz.ntmps117
 go_wp2
 go_loopw [5] (fun i wr=>∃k:Nat,k<=xs.length/\i=.int .i64 k/\(∀j,j<k->nth xs j=nth ys j)/\∃n,wr=w.drewN n) (fun i _=>xs.length-(intOf i).toNat)
 case atStart=>exact⟨0,Nat.zero_le _,rfl,fun j p=>by omega,0,rfl⟩
 case round=>
  obtain⟨k,s,rfl,a,n,rfl⟩:=hrel
  have g:Hid (∀j,j<k->nth xs j=nth ys j):=a
  clear a
  by_cases hlt:k<xs.length
  · have r:=hs k hlt
    have c:k<ys.length:=by have:=l.out;omega
    have q:=hs' k c
    by_cases he:nth xs k=nth ys k
    · have f:(nth xs k !=nth ys k)=false:=by simp [he]
      have d:Hid (nth xs k=nth ys k):=he
      clear he
      go_wp2
      go_quiet (fail)
      go_wp2
      go_roundw
      case rel=>exact⟨k+1,by omega,by go_num,fun j p=>by
       rcases Nat.lt_or_ge j k with h | h
       · exact g.out j h
       · rw [show j=k by omega];exact d.out,_,rfl⟩
      case measure=>simp [intOf];omega
    · have f:(nth xs k !=nth ys k)=true:=by simp [he]
      have d:Hid (¬nth xs k=nth ys k):=he
      clear he
      go_wp2
      go_quiet (fail)
      go_wp2
      go_ret
      exact⟨Zd (Eq.symm (decide_eq_false (fun h=>d.out (by rw [h])))),n+nq,by simp⟩
  · go_wp2
    go_ret
    obtain rfl:k=xs.length:=by omega
    exact⟨Zd (Eq.symm (decide_eq_true (Zeh l.out g.out))),_,rfl⟩
theorem ZlX(ao ao':Option Addr)(cap cap':Nat)(xs ys:List Int)(w:World)(hv:Zy w ao xs)(hv':Zy w ao' ys)(hn:xs.length<=1048576):
 Calls Tryz.prog 117 #[.slice ao xs.length cap,.slice ao' ys.length cap'] w fun e w'=>e=.returned (.bool (decide (xs=ys)))/\∃n,w'=w.drewN n:=by
 by_cases hl:xs.length=ys.length
 · rcases hv with rfl | ⟨b,off,rfl,_,hs⟩
   · obtain rfl:ys=[]:=List.eq_nil_of_length_eq_zero (by simpa using hl.symm)
     refine (Zfr ao ao' cap cap' w).mono ?_
     rintro e w' ⟨rfl,rfl⟩
     exact⟨rfl,0,rfl⟩
   · rcases hv' with rfl | ⟨b',off',rfl,_,hs'⟩
     · obtain rfl:xs=[]:=List.eq_nil_of_length_eq_zero (by simpa using hl)
       refine (Zfr _ ao' cap cap' w).mono ?_
       rintro e w' ⟨rfl,rfl⟩
       exact⟨rfl,0,rfl⟩
     · exact Zi2 b off cap b' off' cap' xs ys w hs hs' hn hl
 · refine (ZkD ao ao' xs.length ys.length cap cap' w hl).mono ?_
   rintro e w' ⟨rfl,rfl⟩
   exact⟨Zd (Eq.symm (decide_eq_false (fun h=>hl (by rw [h])))),0,rfl⟩
end Go.Proofs.YtilkaeclgmcolaaGreat
