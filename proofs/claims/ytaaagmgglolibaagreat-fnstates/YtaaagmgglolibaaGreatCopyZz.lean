import Derived.Test.YtaaagmgglolibaaGreatProg
import Derived.WalkKit
import Derived.WalkSpells
import Derived.WalkLawsBesides
import Derived.Deep.OwnRows
import Derived.Deep.QuietTactic
import Derived.BigQuiet
import Derived.Test.YtaaagmgglolibaaGreatCellsZz
set_option maxHeartbeats 400000
namespace Go.Proofs.YtaaagmgglolibaaGreat
open Go Go.RowKit
theorem Tryz.info2:(Tryz.prog.info? 2).map (fun i=>(i.zero,i.size,i.bytes))=some (some (.int .i64 0),1,8):=by kernel_rfl
theorem Zg{a b:Bool}(h:a=b):Ending.returned (.bool a)=.returned (.bool b):=by rw [h]
theorem ZmE(ao:Option Addr)(n cap:Nat)(w:World)(h:n<1\/4<n)(hn:n<=1048576):
 Calls Tryz.prog 27 #[.slice ao n cap] w fun e w'=>e=.returned (.bool false)/\w'=w:=by
 rcases h with h | h
 · go_enter Tryz.func27,Tryz.ntmps27
   go_wp2
   go_ret
   exact⟨rfl,rfl⟩
 · have h1:¬n<1:=by omega
   go_enter Tryz.func27,Tryz.ntmps27
   go_wp2
   go_ret
   exact⟨rfl,rfl⟩
theorem ZmF(b off cap:Nat)(xs:List Int)(w:World)(hs:Seg w b off xs)(h1:1<=xs.length)(h4:xs.length<=4):
 Calls Tryz.prog 27 #[.slice (some ⟨b,off,none⟩) xs.length cap] w fun e w'=>e=.returned (.bool (okB xs))/\w'=w:=by
 go_enter Tryz.func27,Tryz.ntmps27
 go_wp2
 go_loop [3] (fun i=>∃k:Nat,k<=xs.length/\i=.int .i64 k/\∀j,j<k-> -1000<=nth xs j/\nth xs j<=1000) (fun i=>xs.length-(intOf i).toNat)
 case atStart=>exact⟨0,Nat.zero_le _,rfl,fun j hj=>by omega⟩
 case round=>
  obtain⟨k,hk,rfl,hall⟩:=hrel
  have HA:Hid (∀j,j<k-> -1000<=nth xs j/\nth xs j<=1000):=hall
  clear hall
  by_cases hlt:k<xs.length
  · have hc:=hs k hlt
    by_cases ha:-1000<=nth xs k
    · by_cases hb:nth xs k<=1000
      · go_wp2
        go_round
        case rel=>exact⟨k+1,by omega,by go_num,fun j hj=>by
         rcases Nat.lt_or_ge j k with h | h
         · exact HA.out j h
         · rw [show j=k by omega];exact⟨ha,hb⟩⟩
        case measure=>simp [intOf];omega
      · go_wp2
        go_ret
        exact⟨Zg (Eq.symm (Zjj k (by omega))),rfl⟩
    · go_wp2
      go_ret
      exact⟨Zg (Eq.symm (Zjj k (by omega))),rfl⟩
  · go_wp2
    go_ret
    obtain rfl:k=xs.length:=by omega
    exact⟨Zg (Eq.symm (ZnU h1 h4 HA.out)),rfl⟩
theorem sOk(ao:Option Addr)(cap:Nat)(xs:List Int)(w:World)(hv:Zs w ao xs)(hn:xs.length<=1048576):
 Calls Tryz.prog 27 #[.slice ao xs.length cap] w fun e w'=>e=.returned (.bool (okB xs))/\w'=w:=by
 by_cases h:1<=xs.length/\xs.length<=4
 · rcases hv with rfl | ⟨b,off,rfl,_,hs⟩
   · simp at h
   · exact ZmF b off cap xs w hs h.1 h.2
 · refine (ZmE ao xs.length cap w (by omega) hn).mono ?_
   rintro e w' ⟨rfl,rfl⟩
   refine⟨Zg ?_,rfl⟩
   rcases Nat.lt_or_ge xs.length 1 with h1 | h1
   · exact (ZjT h1).symm
   · exact (Zk1 (by omega)).symm
def ZcG(lo hi:Int)(xs:List Int):Bool:=decide (1<=xs.length) && decide (xs.length<=4) && xs.all (fun x=>decide (lo<=x) && decide (x<=hi))
theorem Zk2{lo hi:Int}{xs:List Int}(h:ZcG lo hi xs=true){i:Nat}(hi':i<xs.length):lo<=nth xs i/\nth xs i<=hi:=by
 simp only [ZcG,Bool.and_eq_true,List.all_eq_true,decide_eq_true_eq] at h
 have:=h.2 xs[i] (List.getElem_mem hi')
 simpa [nth,List.getD,hi'] using this
theorem Zk3{lo hi:Int}{xs:List Int}(h1:1<=xs.length)(h4:xs.length<=4)(h:∀i,i<xs.length->lo<=nth xs i/\nth xs i<=hi):ZcG lo hi xs=true:=by
 simp only [ZcG,Bool.and_eq_true,List.all_eq_true,decide_eq_true_eq]
 refine⟨⟨h1,h4⟩,fun x hx=>?_⟩
 obtain⟨i,hi,rfl⟩:=List.getElem_of_mem hx
 have:=h i hi
 simpa [nth,List.getD,hi] using this
theorem Zg7{lo hi:Int}{xs:List Int}(h:xs.length<1):ZcG lo hi xs=false:=by simp [ZcG];omega
theorem Zii{lo hi:Int}{xs:List Int}(h:4<xs.length):ZcG lo hi xs=false:=by simp [ZcG];omega
theorem ZfU{lo hi:Int}{xs:List Int}(i:Nat)(hl:i<xs.length)(h:nth xs i<lo\/hi<nth xs i):ZcG lo hi xs=false:=by
 rcases hb:ZcG lo hi xs with _ | _
 · rfl
 · have:=Zk2 hb hl;omega
theorem Zij(lo hi:Int)(ao:Option Addr)(n cap:Nat)(w:World)(h:n<1\/4<n)(hn:n<=1048576):
 Calls Tryz.prog 277 #[.slice ao n cap,.int .i64 lo,.int .i64 hi] w fun e w'=>e=.returned (.bool false)/\w'=w:=by
 rcases h with h | h
 · go_enter Tryz.func277,Tryz.ntmps277
   go_wp2
   go_ret
   exact⟨rfl,rfl⟩
 · have h1:¬n<1:=by omega
   go_enter Tryz.func277,Tryz.ntmps277
   go_wp2
   go_ret
   exact⟨rfl,rfl⟩
theorem Zik(lo hi:Int)(b off cap:Nat)(xs:List Int)(w:World)(hs:Seg w b off xs)(h1:1<=xs.length)(h4:xs.length<=4):
 Calls Tryz.prog 277 #[.slice (some ⟨b,off,none⟩) xs.length cap,.int .i64 lo,.int .i64 hi] w fun e w'=>e=.returned (.bool (ZcG lo hi xs))/\w'=w:=by
 go_enter Tryz.func277,Tryz.ntmps277
 go_wp2
 go_loop [19] (fun i=>∃k:Nat,k<=xs.length/\i=.int .i64 k/\∀j,j<k->lo<=nth xs j/\nth xs j<=hi) (fun i=>xs.length-(intOf i).toNat)
 case atStart=>exact⟨0,Nat.zero_le _,rfl,fun j hj=>by omega⟩
 case round=>
  obtain⟨k,hk,rfl,hall⟩:=hrel
  have HA:Hid (∀j,j<k->lo<=nth xs j/\nth xs j<=hi):=hall
  clear hall
  by_cases hlt:k<xs.length
  · have hc:=hs k hlt
    by_cases ha:lo<=nth xs k
    · by_cases hb:nth xs k<=hi
      · go_wp2
        go_round
        case rel=>exact⟨k+1,by omega,by go_num,fun j hj=>by
         rcases Nat.lt_or_ge j k with h | h
         · exact HA.out j h
         · rw [show j=k by omega];exact⟨ha,hb⟩⟩
        case measure=>simp [intOf];omega
      · go_wp2
        go_ret
        exact⟨Zg (Eq.symm (ZfU k hlt (by omega))),rfl⟩
    · go_wp2
      go_ret
      exact⟨Zg (Eq.symm (ZfU k hlt (by omega))),rfl⟩
  · go_wp2
    go_ret
    obtain rfl:k=xs.length:=by omega
    exact⟨Zg (Eq.symm (Zk3 h1 h4 HA.out)),rfl⟩
theorem ZnV(lo hi:Int)(ao:Option Addr)(cap:Nat)(xs:List Int)(w:World)(hv:Zs w ao xs)(hn:xs.length<=1048576):
 Calls Tryz.prog 277 #[.slice ao xs.length cap,.int .i64 lo,.int .i64 hi] w fun e w'=>e=.returned (.bool (ZcG lo hi xs))/\w'=w:=by
 by_cases h:1<=xs.length/\xs.length<=4
 · rcases hv with rfl | ⟨b,off,rfl,_,hs⟩
   · simp at h
   · exact Zik lo hi b off cap xs w hs h.1 h.2
 · refine (Zij lo hi ao xs.length cap w (by omega) hn).mono ?_
   rintro e w' ⟨rfl,rfl⟩
   refine⟨Zg ?_,rfl⟩
   rcases Nat.lt_or_ge xs.length 1 with h1 | h1
   · exact (Zg7 h1).symm
   · exact (Zii (by omega)).symm
theorem pOk(ao:Option Addr)(cap:Nat)(xs:List Int)(w:World)(hv:Zs w ao xs)(hn:xs.length<=1048576):
 Calls Tryz.prog 242 #[.slice ao xs.length cap] w fun e w'=>e=.returned (.bool (okB xs))/\w'=w:=by
 go_enter Tryz.func242,Tryz.ntmps242
 go_wp2_with (go_at_call 277;refine (ZnV (-1000) 1000 ao cap xs _ hv hn).mono ?_;rintro e w' ⟨rfl,rfl⟩)
 go_ret
 exact⟨rfl,rfl⟩
theorem iOk(ao:Option Addr)(cap:Nat)(xs:List Int)(w:World)(hv:Zs w ao xs)(hn:xs.length<=1048576):
 Calls Tryz.prog 188 #[.slice ao xs.length cap] w fun e w'=>e=.returned (.bool (okB xs))/\w'=w:=by
 go_enter Tryz.func188,Tryz.ntmps188
 go_wp2_with (go_at_call 242;refine (pOk ao cap xs _ hv hn).mono ?_;rintro e w' ⟨rfl,rfl⟩)
 go_ret
 exact⟨rfl,rfl⟩
theorem ZK{a b:Int}(h:a=b):Ending.returned (.int .i64 a)=.returned (.int .i64 b):=by rw [h]
theorem sTwo(ao ao':Option Addr)(cap cap':Nat)(xs ys:List Int)(w:World)(hv:Zs w ao xs)(hv':Zs w ao' ys)(hn:xs.length<=1048576)(hn':ys.length<=1048576):
 Calls Tryz.prog 207 #[.slice ao xs.length cap,.slice ao' ys.length cap'] w fun e w'=>e=.returned (.bool (Zbu xs ys))/\w'=w:=by
 rcases ha:okB xs with _ | _
 · have HT:=ZfV (b:=ys) ha
   go_enter Tryz.func207,Tryz.ntmps207
   go_wp2_with (go_at_call 27;refine (sOk ao cap xs _ hv hn).mono ?_;rintro e w' ⟨rfl,rfl⟩)
   go_ret
   exact⟨Zg (by simp [HT]),rfl⟩
 · rcases hb:okB ys with _ | _
   · have HT:=ZeW (a:=xs) hb
     go_enter Tryz.func207,Tryz.ntmps207
     go_wp2_with fail
     refine (sOk ao cap xs _ hv hn).mono ?_
     rintro e w' ⟨rfl,rfl⟩
     go_wp2_with fail
     refine (sOk ao' cap' ys _ hv' hn').mono ?_
     rintro e w' ⟨rfl,rfl⟩
     go_wp2_with fail
     go_ret
     exact⟨Zg (by simp [HT]),rfl⟩
   · by_cases hl:xs.length=ys.length
     · have HT:=Zc3 ha hb hl
       have hlb:((xs.length:Int) ==(ys.length:Int))=true:=by simp [hl]
       clear hl
       go_enter Tryz.func207,Tryz.ntmps207
       go_wp2_with fail
       refine (sOk ao cap xs _ hv hn).mono ?_
       rintro e w' ⟨rfl,rfl⟩
       go_wp2_with fail
       refine (sOk ao' cap' ys _ hv' hn').mono ?_
       rintro e w' ⟨rfl,rfl⟩
       go_wp2_with fail
       go_ret
       exact⟨Zg (by simp [HT]),rfl⟩
     · have HT:=Zg8 hl
       have hlb:((xs.length:Int) ==(ys.length:Int))=false:=by simp;omega
       clear hl
       go_enter Tryz.func207,Tryz.ntmps207
       go_wp2_with fail
       refine (sOk ao cap xs _ hv hn).mono ?_
       rintro e w' ⟨rfl,rfl⟩
       go_wp2_with fail
       refine (sOk ao' cap' ys _ hv' hn').mono ?_
       rintro e w' ⟨rfl,rfl⟩
       go_wp2_with fail
       go_ret
       exact⟨Zg (by simp [HT]),rfl⟩
theorem sFar(ao ao':Option Addr)(cap cap':Nat)(xs ys:List Int)(w:World)(hv:Zs w ao xs)(hv':Zs w ao' ys)(hn:xs.length<=1048576)(hn':ys.length<=1048576):
 Calls Tryz.prog 122 #[.slice ao xs.length cap,.slice ao' ys.length cap'] w fun e w'=>e=.returned (.int .i64 (ZaY xs ys))/\∃n,w'=w.drewN n:=by
 rcases ht:Zbu xs ys with _ | _
 · have HV:ZaY xs ys= -1:=by simp [ZaY,ht]
   go_enter Tryz.func122,Tryz.ntmps122
   go_wp2_with fail
   refine (sTwo ao ao' cap cap' xs ys _ hv hv' hn hn').mono ?_
   rintro e w' ⟨rfl,rfl⟩
   go_wp2_with fail
   go_ret
   exact⟨ZK HV.symm,0,rfl⟩
 · obtain⟨ha,hb,hl⟩:=Zc4 ht
   have h4:=Zat ha
   have HV:Hid (ZaY xs ys=ZC (sqF xs ys) xs.length):=by show ZaY xs ys=_;simp [ZaY,ht]
   obtain⟨b,off,rfl,hbs,hs⟩:∃b off,ao=some ⟨b,off,none⟩/\b<w.heap.size/\Seg w b off xs:=by
    rcases hv with rfl | h
    · simp at h4
    · exact h
   obtain⟨b',off',rfl,hbs',hs'⟩:∃b off,ao'=some ⟨b,off,none⟩/\b<w.heap.size/\Seg w b off ys:=by
    rcases hv' with rfl | h
    · simp at hl;rw [hl] at h4;simp at h4
    · exact h
   have HL:Hid (xs.length=ys.length):=hl
   clear hl
   go_enter Tryz.func122,Tryz.ntmps122
   go_wp2_with fail
   refine (sTwo _ _ cap cap' xs ys _ (Or.inr ⟨b,off,rfl,hbs,hs⟩) (Or.inr ⟨b',off',rfl,hbs',hs'⟩) hn hn').mono ?_
   rintro e w' ⟨rfl,rfl⟩
   go_wp2_with fail
   go_loopw [5,6] (fun s i wr=>∃k:Nat,k<=xs.length/\i=.int .i64 k/\s=.int .i64 (ZC (sqF xs ys) k)/\∃n,wr=w'.drewN n) (fun _ i _=>xs.length-(intOf i).toNat)
   case atStart=>exact⟨0,Nat.zero_le _,rfl,rfl,0,rfl⟩
   case round=>
    obtain⟨k,hk,rfl,rfl,hw⟩:=hrel
    have HW:Hid (∃n,wr=w'.drewN n):=hw
    clear hw
    by_cases hlt:k<xs.length
    · have hc:wr.cell? ⟨b,off+k,none⟩=some (.int .i64 (nth xs k)):=by obtain⟨n,rfl⟩:=HW.out;exact hs k hlt
      have hlt':k<ys.length:=by have:=HL.out;omega
      have hc':wr.cell? ⟨b',off'+k,none⟩=some (.int .i64 (nth ys k)):=by obtain⟨n,rfl⟩:=HW.out;exact hs' k hlt'
      have hx:=Zcv ha k
      have hy:=Zcv hb k
      have hg:=ZeX ha hb k
      have hsum:=ZbI (sqF xs ys) 0 4000000 (ZeX ha hb) k
      have HN:Hid (ZC (sqF xs ys) (k+1)=ZC (sqF xs ys) k+(nth xs k-nth ys k)*(nth xs k-nth ys k)):=rfl
      unfold sqF at hg
      go_wp2
      go_quiet (fail)
      go_wp2
      go_roundw
      case rel=>exact⟨k+1,by omega,by go_num,by rw [HN.out],by obtain⟨n,hn⟩:=HW.out;exact⟨n+nq,by rw [hn];simp⟩⟩
      case measure=>simp [intOf];omega
    · go_wp2
      go_ret
      obtain rfl:k=xs.length:=by omega
      exact⟨ZK HV.out.symm,HW.out⟩
theorem sMax(x y:Int)(w:World):
 Calls Tryz.prog 126 #[.int .i64 x,.int .i64 y] w fun e w'=>e=.returned (.int .i64 (ZjP x y))/\w'=w:=by
 by_cases h:y<x
 · go_enter Tryz.func126,Tryz.ntmps126
   go_wp2
   go_ret
   exact⟨ZK (by unfold ZjP;omega),rfl⟩
 · go_enter Tryz.func126,Tryz.ntmps126
   go_wp2
   go_ret
   exact⟨ZK (by unfold ZjP;omega),rfl⟩
theorem Zk4(ao ao':Option Addr)(cap cap':Nat)(xs ys:List Int)(w:World)(hv:Zs w ao xs)(hv':Zs w ao' ys)(hn:xs.length<=1048576)(hn':ys.length<=1048576):
 Calls Tryz.prog 304 #[.slice ao xs.length cap,.slice ao' ys.length cap'] w fun e w'=>e=.returned (.bool (Zbu xs ys))/\w'=w:=by
 by_cases hl:xs.length=ys.length
 · have hlb:((xs.length:Int) ==(ys.length:Int))=true:=by simp [hl]
   rcases ha:okB xs with _ | _
   · have HT:=ZfV (b:=ys) ha
     clear hl
     go_enter Tryz.func304,Tryz.ntmps304
     go_wp2_with (go_at_call 242;refine (pOk ao cap xs _ hv hn).mono ?_;rintro e w' ⟨rfl,rfl⟩)
     go_ret
     exact⟨Zg (by simp [HT]),rfl⟩
   · rcases hb:okB ys with _ | _
     · have HT:=ZeW (a:=xs) hb
       clear hl
       go_enter Tryz.func304,Tryz.ntmps304
       go_wp2_with fail
       refine (pOk ao cap xs _ hv hn).mono ?_
       rintro e w' ⟨rfl,rfl⟩
       go_wp2_with fail
       refine (pOk ao' cap' ys _ hv' hn').mono ?_
       rintro e w' ⟨rfl,rfl⟩
       go_wp2_with fail
       go_ret
       exact⟨Zg (by simp [HT]),rfl⟩
     · have HT:=Zc3 ha hb hl
       clear hl
       go_enter Tryz.func304,Tryz.ntmps304
       go_wp2_with fail
       refine (pOk ao cap xs _ hv hn).mono ?_
       rintro e w' ⟨rfl,rfl⟩
       go_wp2_with fail
       refine (pOk ao' cap' ys _ hv' hn').mono ?_
       rintro e w' ⟨rfl,rfl⟩
       go_wp2_with fail
       go_ret
       exact⟨Zg (by simp [HT]),rfl⟩
 · have HT:=Zg8 hl
   have hlb:((xs.length:Int) ==(ys.length:Int))=false:=by simp;omega
   clear hl
   go_enter Tryz.func304,Tryz.ntmps304
   go_wp2_with fail
   go_ret
   exact⟨Zg (by simp [HT]),rfl⟩
theorem ZnW(b off cap:Nat)(xs:List Int)(w:World)(hs:Seg w b off xs)(hn:xs.length<=4)(hbd:∀i,-4000000<=nth xs i/\nth xs i<=4000000):
 Calls Tryz.prog 307 #[.slice (some ⟨b,off,none⟩) xs.length cap] w fun e w'=>e=.returned (.int .i64 (ZC (nth xs) xs.length))/\w'=w:=by
 have HB:Hid (∀i,-4000000<=nth xs i/\nth xs i<=4000000):=hbd
 clear hbd
 go_enter Tryz.func307,Tryz.ntmps307
 go_wp2
 go_loop [3,8] (fun s i=>∃k:Nat,k<=xs.length/\i=.int .i64 k/\s=.int .i64 (ZC (nth xs) k)) (fun _ i=>xs.length-(intOf i).toNat)
 case atStart=>exact⟨0,Nat.zero_le _,rfl,rfl⟩
 case round=>
  obtain⟨k,hk,rfl,rfl⟩:=hrel
  by_cases hlt:k<xs.length
  · have hc:=hs k hlt
    have hx:=HB.out k
    have hsum:=ZbI (nth xs) (-4000000) 4000000 HB.out k
    have HN:Hid (ZC (nth xs) (k+1)=ZC (nth xs) k+nth xs k):=rfl
    go_wp2
    go_round
    case rel=>exact⟨k+1,by omega,by go_num,by rw [HN.out]⟩
    case measure=>simp [intOf];omega
  · go_wp2
    go_ret
    obtain rfl:k=xs.length:=by omega
    exact⟨rfl,rfl⟩
theorem ZmG(b off cap k:Nat)(x:Int)(xs:List Int)(w:World)(hs:Seg w b off xs)(hk:k<xs.length)(h1:-1000<=nth xs k)(h2:nth xs k<=1000)(h3:-1000<=x)(h4:x<=1000):
 Calls Tryz.prog 306 #[.slice (some ⟨b,off,none⟩) xs.length cap,.int .i64 k,.int .i64 x] w fun e w'=>e=.returned (.int .i64 ((nth xs k-x)*(nth xs k-x)))/\∃n,w'=w.drewN n:=by
 have hc:=hs k hk
 have hb:=Zk5 (x:=nth xs k-x) (y:=nth xs k-x) (m:=2000) (by omega) (by omega) (by omega)
 go_enter Tryz.func306,Tryz.ntmps306
 go_wp2
 go_quiet (fail)
 go_wp2
 go_ret
 exact⟨rfl,_,rfl⟩
theorem Zg9(g:Nat->Int)(b off cap b' off' cap' n:Nat)(xs ys:List Int)(w:World)(hs:Seg w b off xs)(hs':Seg w b' off' ys)(hb:b<w.heap.size)(hb':b'<w.heap.size)(hn:ys.length<=4)
 (hcall:∀(W:World) (k:Nat),k<ys.length->Seg W b off xs->Calls Tryz.prog 306 #[.slice (some ⟨b,off,none⟩) n cap,.int .i64 k,.int .i64 (nth ys k)] W fun e w'=>e=.returned (.int .i64 (g k))/\∃m,w'=W.drewN m):
 Calls Tryz.prog 305 #[.slice (some ⟨b',off',none⟩) ys.length cap',.func (Fn.func 306) #[.slice (some ⟨b,off,none⟩) n cap] #[]] w fun e w'=>
  e=.returned (.slice (some ⟨w.heap.size,0,none⟩) ys.length ys.length)/\Own w' w.heap.size (ZaU g ys.length)/\Below w.heap.size w w':=by
 have hmk:=run_make_row' (P:=Tryz.prog) 246 2 (.int .i64 0) 8 Tryz.underlying246 Tryz.info2 rfl .i64 .i64 ys.length (by omega) (by omega)
 have HH:Hid (∀(W:World) (k:Nat),k<ys.length->Seg W b off xs->Calls Tryz.prog 306 #[.slice (some ⟨b,off,none⟩) n cap,.int .i64 k,.int .i64 (nth ys k)] W fun e w'=>e=.returned (.int .i64 (g k))/\∃m,w'=W.drewN m):=hcall
 clear hcall
 go_enter Tryz.func305,Tryz.ntmps305
 go_wp2
 clear hmk
 go_loopw [13] (fun i wr=>∃k:Nat,k<=ys.length/\i=.int .i64 k/\∃m,wr=(w.alloc (.cells (Zb3 g ys.length k) 2)).drewN m) (fun i _=>ys.length-(intOf i).toNat)
 case atStart=>exact⟨0,Nat.zero_le _,rfl,0,by rw [Zg5];rfl⟩
 case round=>
  obtain⟨k,hk,rfl,m,rfl⟩:=hrel
  by_cases hlt:k<ys.length
  · have hc:=hs' k hlt
    have hnext:=Zg6 g ys.length k hlt
    go_wp2_with fail
    refine (HH.out _ k hlt ((hs.alloc hb _).drewN m)).mono ?_
    rintro e w1 ⟨rfl,m1,rfl⟩
    go_wp2
    go_roundw
    case rel=>exact⟨k+1,by omega,by go_num,m+m1,by rw [<-Zig g ys.length k hlt,ZmD]⟩
    case measure=>simp [intOf];omega
  · go_wp2
    go_ret
    obtain rfl:k=ys.length:=by omega
    refine⟨rfl,?_,?_⟩
    · rw [Zih];exact (Own.new w _).drewN m
    · exact below_drewN ((Below.refl _ _).alloc (Nat.le_refl _) _) m
theorem ZmH(g:Nat->Int)(n:Nat):ZC (nth (ZaU g n)) (ZaU g n).length=ZC g n:=by
 rw [ZE];exact ZcK _ _ _ (fun i hi=>Zd5 g n i hi)
theorem ZnX(g:Nat->Int)(n:Nat)(lo hi:Int)(h0:lo<=0)(h1:0<=hi)(h:∀i,lo<=g i/\g i<=hi)(i:Nat):lo<=nth (ZaU g n) i/\nth (ZaU g n) i<=hi:=by
 by_cases hi:i<n
 · rw [Zd5 g n i hi];exact h i
 · have:nth (ZaU g n) i=0:=by simp [nth,ZaU,List.getD,hi]
   rw [this];exact⟨h0,h1⟩
theorem pFar(b off cap b' off' cap':Nat)(xs ys:List Int)(w:World)(hs:Seg w b off xs)(hs':Seg w b' off' ys)(hb:b<w.heap.size)(hb':b'<w.heap.size)(ht:Zbu xs ys=true):
 Calls Tryz.prog 287 #[.slice (some ⟨b,off,none⟩) xs.length cap,.slice (some ⟨b',off',none⟩) ys.length cap'] w fun e w'=>e=.returned (.int .i64 (ZC (sqF xs ys) xs.length))/\Below w.heap.size w w':=by
 obtain⟨ha,hbo,hl⟩:=Zc4 ht
 have h4:=Zat hbo
 have HR:Hid (ZC (nth (ZaU (sqF xs ys) ys.length)) (ZaU (sqF xs ys) ys.length).length=ZC (sqF xs ys) xs.length):=by
  show _=_
  rw [ZmH,hl]
 have HL:Hid (xs.length=ys.length):=hl
 have HZ:Hid ((ZaU (sqF xs ys) ys.length).length=ys.length):=ZE _ _
 clear hl
 go_enter Tryz.func287,Tryz.ntmps287
 go_wp2_with fail
 refine (Zg9 (sqF xs ys) b off cap b' off' cap' xs.length xs ys _ hs hs' hb hb' h4.2 (fun W k hk hS=>?_)).mono ?_
 · have hx:=Zcv ha k
   have hy:=Zcv hbo k
   exact ZmG b off cap k (nth ys k) xs W hS (by rw [HL.out];exact hk) hx.1 hx.2 hy.1 hy.2
 rintro e w1 ⟨rfl,o1,L1⟩
 go_wp2_with fail
 have hend:=ZnW w.heap.size 0 ys.length (ZaU (sqF xs ys) ys.length) w1 o1.seg (by rw [HZ.out];exact h4.2) (ZnX _ _ (-4000000) 4000000 (by omega) (by omega) (fun i=>by have:=ZeX ha hbo i;omega))
 rw [HZ.out,<-HL.out] at hend
 rw [<-HL.out]
 refine hend.mono ?_
 rintro e w2 ⟨rfl,rfl⟩
 go_wp2_with fail
 go_ret
 exact⟨ZK (by have:=HR.out;rwa [HZ.out,<-HL.out] at this),L1⟩
theorem mFar(ao ao':Option Addr)(cap cap':Nat)(xs ys:List Int)(w:World)(r:Int)(hv:Zs w ao xs)(hv':Zs w ao' ys)(hn:xs.length<=1048576)(hn':ys.length<=1048576):
 Calls Tryz.prog 286 #[.slice ao xs.length cap,.slice ao' ys.length cap',.func (Fn.func 287) #[] #[],.int .i64 r] w fun e w'=>e=.returned (.int .i64 (if Zbu xs ys=true then ZC (sqF xs ys) xs.length else r))/\Below w.heap.size w w':=by
 rcases ht:Zbu xs ys with _ | _
 · go_enter Tryz.func286,Tryz.ntmps286
   go_wp2_with fail
   refine (Zk4 ao ao' cap cap' xs ys _ hv hv' hn hn').mono ?_
   rintro e w1 ⟨rfl,rfl⟩
   go_wp2_with fail
   go_ret
   exact⟨ZK (by simp),Below.refl _ _⟩
 · obtain⟨ha,hb,hl⟩:=Zc4 ht
   have h4:=Zat ha
   obtain⟨b,off,rfl,hbs,hs⟩:∃b off,ao=some ⟨b,off,none⟩/\b<w.heap.size/\Seg w b off xs:=by
    rcases hv with rfl | h
    · simp at h4
    · exact h
   obtain⟨b',off',rfl,hbs',hs'⟩:∃b off,ao'=some ⟨b,off,none⟩/\b<w.heap.size/\Seg w b off ys:=by
    rcases hv' with rfl | h
    · simp at hl;rw [hl] at h4;simp at h4
    · exact h
   clear ha hb hl h4
   go_enter Tryz.func286,Tryz.ntmps286
   go_wp2_with fail
   refine (Zk4 _ _ cap cap' xs ys _ (Or.inr ⟨b,off,rfl,hbs,hs⟩) (Or.inr ⟨b',off',rfl,hbs',hs'⟩) hn hn').mono ?_
   rintro e w1 ⟨rfl,rfl⟩
   go_wp2_with fail
   refine (pFar b off cap b' off' cap' xs ys _ hs hs' hbs hbs' ht).mono ?_
   rintro e w2 ⟨rfl,L2⟩
   go_wp2_with fail
   go_ret
   exact⟨ZK (by simp),L2⟩
theorem iFar(ao ao':Option Addr)(cap cap':Nat)(xs ys:List Int)(w:World)(hv:Zs w ao xs)(hv':Zs w ao' ys)(hn:xs.length<=1048576)(hn':ys.length<=1048576):
 Calls Tryz.prog 254 #[.slice ao xs.length cap,.slice ao' ys.length cap'] w fun e w'=>e=.returned (.int .i64 (ZaY xs ys))/\Below w.heap.size w w':=by
 go_enter Tryz.func254,Tryz.ntmps254
 go_wp2_with fail
 refine (mFar ao ao' cap cap' xs ys _ (-1) hv hv' hn hn').mono ?_
 rintro e w1 ⟨rfl,L1⟩
 have HV:Hid (ZaY xs ys=if Zbu xs ys=true then ZC (sqF xs ys) xs.length else -1):=rfl
 generalize (if Zbu xs ys=true then ZC (sqF xs ys) xs.length else -1)=r at *
 go_wp2_with fail
 go_ret
 exact⟨ZK HV.out.symm,L1⟩
theorem ZjU(ao ao':Option Addr)(n n' cap cap':Nat)(w:World)(h:n≠n'):
 Calls Tryz.prog 117 #[.slice ao n cap,.slice ao' n' cap'] w fun e w'=>e=.returned (.bool false)/\w'=w:=by
 have hlb:((n:Int) !=(n':Int))=true:=by simp;omega
 go_enter Tryz.func117,Tryz.ntmps117
 go_wp2
 go_ret
 exact⟨rfl,rfl⟩
theorem ZeY(ao ao':Option Addr)(cap cap':Nat)(w:World):
 Calls Tryz.prog 117 #[.slice ao 0 cap,.slice ao' 0 cap'] w fun e w'=>e=.returned (.bool true)/\w'=w:=by
 go_enter Tryz.func117,Tryz.ntmps117
 go_wp2
 refine wp_loop_rounds 1 ?_
 rw [rounds_succ]
 go_wp2
 go_ret
 exact⟨rfl,rfl⟩
theorem Zil(b off cap b' off' cap':Nat)(xs ys:List Int)(w:World)(hs:Seg w b off xs)(hs':Seg w b' off' ys)(hn:xs.length<=1048576)(hl:xs.length=ys.length):
 Calls Tryz.prog 117 #[.slice (some ⟨b,off,none⟩) xs.length cap,.slice (some ⟨b',off',none⟩) ys.length cap'] w fun e w'=>e=.returned (.bool (decide (xs=ys)))/\∃n,w'=w.drewN n:=by
 have hlb:((xs.length:Int) !=(ys.length:Int))=false:=by simp [hl]
 have HL:Hid (xs.length=ys.length):=hl
 have hn':ys.length<=1048576:=by omega
 clear hl
 go_enter Tryz.func117,Tryz.ntmps117
 go_wp2
 go_loopw [5] (fun i wr=>∃k:Nat,k<=xs.length/\i=.int .i64 k/\(∀j,j<k->nth xs j=nth ys j)/\∃n,wr=w.drewN n) (fun i _=>xs.length-(intOf i).toNat)
 case atStart=>exact⟨0,Nat.zero_le _,rfl,fun j hj=>by omega,0,rfl⟩
 case round=>
  obtain⟨k,hk,rfl,hall,n,rfl⟩:=hrel
  have HA:Hid (∀j,j<k->nth xs j=nth ys j):=hall
  clear hall
  by_cases hlt:k<xs.length
  · have hc:=hs k hlt
    have hlt':k<ys.length:=by have:=HL.out;omega
    have hc':=hs' k hlt'
    by_cases he:nth xs k=nth ys k
    · have heb:(nth xs k !=nth ys k)=false:=by simp [he]
      have HE:Hid (nth xs k=nth ys k):=he
      clear he
      go_wp2
      go_quiet (fail)
      go_wp2
      go_roundw
      case rel=>exact⟨k+1,by omega,by go_num,fun j hj=>by
       rcases Nat.lt_or_ge j k with h | h
       · exact HA.out j h
       · rw [show j=k by omega];exact HE.out,_,rfl⟩
      case measure=>simp [intOf];omega
    · have heb:(nth xs k !=nth ys k)=true:=by simp [he]
      have HE:Hid (¬nth xs k=nth ys k):=he
      clear he
      go_wp2
      go_quiet (fail)
      go_wp2
      go_ret
      exact⟨Zg (Eq.symm (decide_eq_false (fun h=>HE.out (by rw [h])))),n+nq,by simp⟩
  · go_wp2
    go_ret
    obtain rfl:k=xs.length:=by omega
    exact⟨Zg (Eq.symm (decide_eq_true (Zd7 HL.out HA.out))),_,rfl⟩
theorem Zk6(ao ao':Option Addr)(cap cap':Nat)(xs ys:List Int)(w:World)(hv:Zs w ao xs)(hv':Zs w ao' ys)(hn:xs.length<=1048576):
 Calls Tryz.prog 117 #[.slice ao xs.length cap,.slice ao' ys.length cap'] w fun e w'=>e=.returned (.bool (decide (xs=ys)))/\∃n,w'=w.drewN n:=by
 by_cases hl:xs.length=ys.length
 · rcases hv with rfl | ⟨b,off,rfl,_,hs⟩
   · obtain rfl:ys=[]:=List.eq_nil_of_length_eq_zero (by simpa using hl.symm)
     refine (ZeY ao ao' cap cap' w).mono ?_
     rintro e w' ⟨rfl,rfl⟩
     exact⟨rfl,0,rfl⟩
   · rcases hv' with rfl | ⟨b',off',rfl,_,hs'⟩
     · obtain rfl:xs=[]:=List.eq_nil_of_length_eq_zero (by simpa using hl)
       refine (ZeY _ ao' cap cap' w).mono ?_
       rintro e w' ⟨rfl,rfl⟩
       exact⟨rfl,0,rfl⟩
     · exact Zil b off cap b' off' cap' xs ys w hs hs' hn hl
 · refine (ZjU ao ao' xs.length ys.length cap cap' w hl).mono ?_
   rintro e w' ⟨rfl,rfl⟩
   exact⟨Zg (Eq.symm (decide_eq_false (fun h=>hl (by rw [h])))),0,rfl⟩
end Go.Proofs.YtaaagmgglolibaaGreat
