import Derived.Test.YtaaagmgglolibaaGreatCopyZz
import Derived.Deep.RegionHeld3
import Derived.Deep.AppendLies
set_option maxRecDepth 100000
set_option maxHeartbeats 1000000
namespace Go.Proofs.YtaaagmgglolibaaGreat
open Go Go.RowKit
theorem Zh2{p:Prop}(h:p):Hid p:=h
theorem Zml{w:World}{base g cap n:Nat}{xs:List Int}(h:w.ownsRow base 2 1 (.slice (some ⟨g,0,none⟩) n cap) n (xs.map (Value.int .i64))):Zs w (some ⟨g,0,none⟩) xs:=by
 have hl:xs.length=n:=by have:=h.1;simpa using this
 refine Or.inr ⟨g,0,rfl,(h.lt g rfl).2,fun i hi=>?_⟩
 rw [Nat.zero_add,h.cellAt i (by omega)]
 simp [nth,List.getD,hi]
theorem Zau{w w':World}{b k:Nat}{v:Value}(hg:w.grownBy w' (some b)):w.grownBy (w'.setCell ⟨b,k,none⟩ v) (some b):=
 ⟨hg.os,hg.tape,hg.output,by simpa [World.setCell] using hg.size,fun q hq hne=>by
  rw [Below.heap_setCell _ _ _ _ (by intro e;exact hne (by rw [e]))];exact hg.block q hq hne⟩
def Zcu(k0:Int)(xs:List Int)(k:Nat):List Int:=ZaU (fun i=>k0+i) k++xs.drop k
theorem ZfM(k0:Int)(xs:List Int)(k:Nat)(h:k<=xs.length):(Zcu k0 xs k).length=xs.length:=by simp [Zcu,ZE];omega
theorem Zib(k0:Int)(xs:List Int)(k:Nat)(h:k<xs.length):(Zcu k0 xs k).set k (k0+k)=Zcu k0 xs (k+1):=by
 unfold Zcu
 rw [List.set_append_right _ _ (by rw [ZE];exact Nat.le_refl _),ZE,Nat.sub_self,ZfT,List.append_assoc,List.drop_eq_getElem_cons h]
 rfl
theorem Zic(k0:Int)(xs:List Int):Zcu k0 xs xs.length=ZaU (fun i=>k0+i) xs.length:=by simp [Zcu]
theorem ZkV(ao:Option Addr)(cap:Nat)(k0:Int)(w:World):
 Calls Tryz.prog 79 #[.slice ao 0 cap,.int .i64 k0] w fun e w'=>e=.returned (.int .i64 k0)/\w'=w:=by
 go_enter Tryz.func79,Tryz.ntmps79
 go_wp2
 refine wp_loop_rounds 1 ?_
 rw [rounds_succ]
 go_wp2
 go_ret
 exact⟨rfl,rfl⟩
theorem ZkU(ao:Option Addr)(cap:Nat)(k0:Int)(w:World):
 Calls Tryz.prog 94 #[.slice ao 0 cap,.int .i64 k0] w fun e w'=>e=.returned (.int .i64 k0)/\w'=w:=by
 go_enter Tryz.func94,Tryz.ntmps94
 go_wp2
 refine wp_loop_rounds 1 ?_
 rw [rounds_succ]
 go_wp2
 go_ret
 exact⟨rfl,rfl⟩
theorem Zmm(x:Int)(j:Nat)(m:Nat)(hj:m<2 ^ j)(h63:j<=62):0<=bits .and .i64 x m/\bits .and .i64 x m<2 ^ j:=by
 simp only [bits]
 have hm:(BitVec.ofInt 64 (m:Int)).toNat=m:=by
  rw [BitVec.ofInt_natCast,BitVec.toNat_ofNat]
  exact Nat.mod_eq_of_lt (Nat.lt_of_lt_of_le hj (Nat.pow_le_pow_right (by decide) (by omega)))
 have hb:((BitVec.ofInt IntKind.i64.bits x &&& BitVec.ofInt IntKind.i64.bits (m:Int)).toNat:Int)<2 ^ j:=by
  rw [BitVec.toNat_and]
  have:(BitVec.ofInt IntKind.i64.bits x).toNat &&& (BitVec.ofInt IntKind.i64.bits (m:Int)).toNat<2 ^ j:=Nat.and_lt_two_pow _ (by show (BitVec.ofInt 64 (m:Int)).toNat<_;rw [hm];exact hj)
  exact_mod_cast this
 have hp:(2:Int) ^ j<=2 ^ 62:=by
  have:(2:Nat) ^ j<=2 ^ 62:=Nat.pow_le_pow_right (by decide) h63
  exact_mod_cast this
 rw [IntKind.wrap_i64]
 generalize ((BitVec.ofInt IntKind.i64.bits x &&& BitVec.ofInt IntKind.i64.bits (m:Int)).toNat)=r at *
 generalize (2:Int) ^ j=P at *
 omega
theorem ZgV(x:Int):0<=bits .and .i64 x 255/\bits .and .i64 x 255<=255:=by
 have:=Zmm x 8 255 (by decide) (by decide)
 have e:(2:Int) ^ 8=256:=rfl
 rw [e] at this
 exact⟨this.1,by have:=this.2;simp at this ⊢;omega⟩
def ZW(w:World)(ao:Option Addr)(n:Nat):Prop:=n=0\/∃b off,ao=some ⟨b,off,none⟩/\b<w.heap.size/\∀j,j<n->∃x:Int,0<=x/\x<=255/\w.cell? ⟨b,off+j,none⟩=some (.int .u8 x)
def Cur(w:World)(q:Nat)(ao:Option Addr)(n cap:Nat):Prop:=∃(i:Nat) (h:Int),i<=n/\w.heap[q]? =some (.cells #[.slice ao n cap,.int .i64 i,.int .i64 h] 214 (0,0))
theorem ZeL{w:World}{q:Nat}{cs:Array Value}{t:TypeId}(h:w.heap[q]? =some (.cells cs t (0,0)))(i:Nat):w.cell? ⟨q,i,none⟩=cs[i]? :=by simp [World.cell?,h]
theorem ZjF{w:World}{q:Nat}{cs:Array Value}{t:TypeId}(h:w.heap[q]? =some (.cells cs t (0,0)))(i:Nat):w.frozen? ⟨q,i,none⟩=false:=by simp [World.frozen?,h]
theorem Znu{w:World}{q:Nat}{a b c v:Value}{t:TypeId}(h:w.heap[q]? =some (.cells #[a,b,c] t (0,0))):(w.setCell ⟨q,1,none⟩ v).heap[q]? =some (.cells #[a,v,c] t (0,0)):=by
 simp [World.setCell,Array.getElem?_modify,h]
theorem ZjG{w:World}{q:Nat}{a b c v:Value}{t:TypeId}(h:w.heap[q]? =some (.cells #[a,b,c] t (0,0))):(w.setCell ⟨q,2,none⟩ v).heap[q]? =some (.cells #[a,b,v] t (0,0)):=by
 simp [World.setCell,Array.getElem?_modify,h]
theorem ZI(w:World)(r:Option Nat):w.grownBy w r:=⟨rfl,rfl,rfl,Nat.le_refl _,fun _ _ _=>rfl⟩
theorem ZdE{w w':World}{r:Option Nat}(h:w.grownBy w' r)(n:Nat):w.grownBy (w'.drewN n) r:=⟨h.os,h.tape,h.output,h.size,h.block⟩
theorem ZjH{w:World}{q b o:Nat}{ao:Option Addr}{n cap:Nat}{i h x:Int}(hb:w.heap[q]? =some (.cells #[.slice ao n cap,.int .i64 i,.int .i64 h] 214 (0,0)))(hx:w.cell? ⟨b,o,none⟩=some (.int .u8 x)):b≠q:=by
 intro e
 subst e
 rw [ZeL hb] at hx
 match o,hx with
 | 0,hx=>simp at hx
 | 1,hx=>simp at hx
 | 2,hx=>simp at hx
 | k+3,hx=>simp at hx
theorem Zg0(q:Nat)(ao:Option Addr)(n cap:Nat)(w:World)(hc:Cur w q ao n cap)(hv:ZW w ao n)(hn:n<=4096):
 Calls Tryz.prog 179 #[.pointer (some ⟨q,0,none⟩)] w fun e w'=>(∃x:Int,0<=x/\x<=255/\e=.returned (.int .i64 x))/\Cur w' q ao n cap/\w.grownBy w' (some q):=by
 obtain⟨i,h,hi,hb⟩:=hc
 have c0:w.cell? ⟨q,0,none⟩=some (.slice ao n cap):=ZeL hb 0
 have c1:w.cell? ⟨q,1,none⟩=some (.int .i64 i):=ZeL hb 1
 have c2:w.cell? ⟨q,2,none⟩=some (.int .i64 h):=ZeL hb 2
 have f1:=ZjF hb 1
 have f2:=ZjF hb 2
 have HB:=Zh2 hb
 by_cases hlt:i<n
 · obtain⟨b,off,rfl,hbl,hby⟩:∃b off,ao=some ⟨b,off,none⟩/\b<w.heap.size/\∀j,j<n->∃x:Int,0<=x/\x<=255/\w.cell? ⟨b,off+j,none⟩=some (.int .u8 x):=by
    rcases hv with h0 | h0
    · omega
    · exact h0
   obtain⟨x,hx0,hx1,hx⟩:=hby i hlt
   have hne:=ZjH hb hx
   clear hb hby
   go_enter Tryz.func179,Tryz.ntmps179
   go_wp2
   go_quiet (fail)
   go_wp2
   go_quiet (fail)
   go_wp2
   go_quiet (fail)
   go_wp2
   go_ret
   refine⟨⟨_,(ZgV _).1,(ZgV _).2,rfl⟩,⟨i+1,wrap64 (wrap64 (h*6364136223846793005)+1442695040888963407),by omega,?_⟩,?_⟩
   · rw [show ((i+1:Nat):Int)=(i:Int)+1 by omega]
     exact Znu (ZjG HB.out)
   · exact Zau (ZdE (Zau (ZI _ _)) _)
 · clear hb
   go_enter Tryz.func179,Tryz.ntmps179
   go_wp2
   go_quiet (fail)
   go_wp2
   go_quiet (fail)
   go_wp2
   go_ret
   refine⟨⟨_,(ZgV _).1,(ZgV _).2,rfl⟩,⟨i,wrap64 (wrap64 (h*6364136223846793005)+1442695040888963407),hi,?_⟩,?_⟩
   · exact ZjG HB.out
   · exact ZdE (ZdE (Zau (ZI _ _)) _) _
theorem ZW.grown{w w':World}{q:Nat}{ao:Option Addr}{n cap:Nat}(hv:ZW w ao n)(hc:Cur w q ao n cap)(hg:w.grownBy w' (some q)):ZW w' ao n:=by
 rcases hv with h | ⟨b,off,rfl,hb,hby⟩
 · exact Or.inl h
 · rcases Nat.eq_zero_or_pos n with h0 | h0
   · exact Or.inl h0
   · refine Or.inr ⟨b,off,rfl,Nat.lt_of_lt_of_le hb hg.size,fun j hj=>?_⟩
     obtain⟨x,h1,h2,hx⟩:=hby j hj
     obtain⟨i,h,_,hq⟩:=hc
     exact⟨x,h1,h2,hg.cell hx (by have:=ZjH hq hx;simpa using this)⟩
theorem Zh{w w1 w2:World}{q:Nat}(h:w.grownBy w1 (some q))(k:w1.grownBy w2 (some q)):w.grownBy w2 (some q):=
 ⟨k.os.trans h.os,k.tape.trans h.tape,k.output.trans h.output,Nat.le_trans h.size k.size,fun i hi hne=>(k.block i (Nat.lt_of_lt_of_le hi h.size) hne).trans (h.block i hi hne)⟩
theorem ZaV(q:Nat)(ao:Option Addr)(n cap:Nat)(m:Int)(w:World)(hc:Cur w q ao n cap)(hv:ZW w ao n)(hn:n<=4096)(h0:1<=m)(h1:m<=256):
 Calls Tryz.prog 97 #[.pointer (some ⟨q,0,none⟩),.int .i64 m] w fun e w'=>(∃x:Int,0<=x/\x<m/\e=.returned (.int .i64 x))/\Cur w' q ao n cap/\w.grownBy w' (some q):=by
 have h2:¬m<=0:=by omega
 have h3:(m ==0)=false:=by simp;omega
 go_enter Tryz.func97,Tryz.ntmps97
 go_wp2_with fail
 refine (Zg0 q ao n cap _ hc hv hn).mono ?_
 rintro e w1 ⟨⟨x,hx0,hx1,rfl⟩,c1,g1⟩
 go_wp2_with fail
 go_ret
 exact⟨⟨x % m,Int.emod_nonneg _ (by omega),Int.emod_lt_of_pos _ (by omega),rfl⟩,c1,g1⟩
theorem ZeU(q:Nat)(ao:Option Addr)(n cap:Nat)(m:Int)(w:World)(hc:Cur w q ao n cap)(hv:ZW w ao n)(hn:n<=4096)(h0:1<=m)(h1:m<=256):
 Calls Tryz.prog 100 #[.pointer (some ⟨q,0,none⟩),.int .i64 m] w fun e w'=>(∃x:Bool,e=.returned (.bool x))/\Cur w' q ao n cap/\w.grownBy w' (some q):=by
 go_enter Tryz.func100,Tryz.ntmps100
 go_wp2_with fail
 refine (ZaV q ao n cap m _ hc hv hn h0 h1).mono ?_
 rintro e w1 ⟨⟨x,hx0,hx1,rfl⟩,c1,g1⟩
 go_wp2_with fail
 go_ret
 exact⟨⟨_,rfl⟩,c1,g1⟩
theorem Zg4(q:Nat)(ao:Option Addr)(n cap:Nat)(lo hi:Int)(w:World)(hc:Cur w q ao n cap)(hv:ZW w ao n)(hn:n<=4096)(h0:lo<=hi)(h1:hi-lo+1<=256)(hlo:-1000000000<=lo)(hhi:hi<=1000000000):
 Calls Tryz.prog 131 #[.pointer (some ⟨q,0,none⟩),.int .i64 lo,.int .i64 hi] w fun e w'=>(∃x:Int,lo<=x/\x<=hi/\e=.returned (.int .i64 x))/\Cur w' q ao n cap/\w.grownBy w' (some q):=by
 go_enter Tryz.func131,Tryz.ntmps131
 go_wp2_with fail
 refine (ZaV q ao n cap (hi-lo+1) _ hc hv hn (by omega) h1).mono ?_
 rintro e w1 ⟨⟨x,hx0,hx1,rfl⟩,c1,g1⟩
 go_wp2_with fail
 go_ret
 exact⟨⟨lo+x,by omega,by omega,rfl⟩,c1,g1⟩
theorem Zmn(ao:Option Addr)(cap:Nat)(w:World):
 Calls Tryz.prog 95 #[.slice ao 0 cap] w fun e w'=>e=.returned (.pointer (some ⟨w.heap.size,0,none⟩))/\Cur w' w.heap.size ao 0 cap/\Below w.heap.size w w':=by
 go_enter Tryz.func95,Tryz.ntmps95
 go_wp2
 refine wp_loop_rounds 1 ?_
 rw [rounds_succ]
 go_wp2
 go_ret
 refine⟨rfl,⟨0,117017,Nat.le_refl _,heap_alloc_new w _⟩,(Below.refl _ _).alloc (Nat.le_refl _) _⟩
theorem cNew(ao:Option Addr)(n cap:Nat)(w:World)(hv:ZW w ao n)(hn:n<=4096):
 Calls Tryz.prog 95 #[.slice ao n cap] w fun e w'=>e=.returned (.pointer (some ⟨w.heap.size,0,none⟩))/\Cur w' w.heap.size ao n cap/\Below w.heap.size w w':=by
 rcases hv with rfl | ⟨b,off,rfl,hbl,hby⟩
 · exact Zmn ao cap w
 · have HY:=Zh2 hby
   clear hby
   go_enter Tryz.func95,Tryz.ntmps95
   go_wp2
   go_loop [3,4] (fun s i=>∃k:Nat,k<=n/\i=.int .i64 k/\∃h:Int,s=.int .i64 h) (fun _ i=>n-(intOf i).toNat)
   case atStart=>exact⟨0,Nat.zero_le _,rfl,_,rfl⟩
   case round=>
    obtain⟨k,hk,rfl,h,rfl⟩:=hrel
    by_cases hlt:k<n
    · obtain⟨x,hx0,hx1,hx⟩:=HY.out k hlt
      go_wp2
      go_round
      case rel=>exact⟨k+1,by omega,by go_num,_,rfl⟩
      case measure=>simp [intOf];omega
    · go_wp2
      go_ret
      exact⟨rfl,⟨0,h,Nat.zero_le _,heap_alloc_new w _⟩,(Below.refl _ _).alloc (Nat.le_refl _) _⟩
theorem Cur.lt{w:World}{q:Nat}{ao:Option Addr}{n cap:Nat}(h:Cur w q ao n cap):q<w.heap.size:=by
 obtain⟨i,x,_,h⟩:=h
 rcases Nat.lt_or_ge q w.heap.size with h1 | h1
 · exact h1
 · rw [Array.getElem?_eq_none h1] at h;cases h
theorem Cur.grown{w w':World}{q:Nat}{r:Option Nat}{ao:Option Addr}{n cap:Nat}(h:Cur w q ao n cap)(hg:w.grownBy w' r)(hne:some q≠r):Cur w' q ao n cap:=by
 have:=h.lt
 obtain⟨i,x,hi,hb⟩:=h
 exact⟨i,x,hi,(hg.block q this hne).trans hb⟩
theorem Cur.alloc{w:World}{q:Nat}{ao:Option Addr}{n cap:Nat}(h:Cur w q ao n cap)(o:Obj):Cur (w.alloc o) q ao n cap:=h.grown (World.grownBy_alloc w o none) (by simp)
theorem Cur.drew{w:World}{q:Nat}{ao:Option Addr}{n cap:Nat}(h:Cur w q ao n cap):Cur w.drew q ao n cap:=h
theorem ZaF{w w1 w2:World}{q:Nat}{r:Option Nat}(h:w.grownBy w1 (some q))(k:w1.grownBy w2 r)(hr:∀g,r=some g->w.heap.size<=g):w.grownBy w2 (some q):=
 ⟨k.os.trans h.os,k.tape.trans h.tape,k.output.trans h.output,Nat.le_trans h.size k.size,fun i hi hne=>(k.block i (Nat.lt_of_lt_of_le hi h.size) (fun e=>by have:=hr i e.symm;omega)).trans (h.block i hi hne)⟩
theorem ZoB(y:Nat)(h:y<6):∃v,(#[.int .i64 1000,.int .i64 (-1000),.int .i64 1001,.int .i64 (-1001),.int .i64 4611686018427387904,.int .i64 (-9223372036854775808)]:Array Value)[y]? =some (.int .i64 v):=by
 match y,h with
 | 0,_=>exact⟨_,rfl⟩
 | 1,_=>exact⟨_,rfl⟩
 | 2,_=>exact⟨_,rfl⟩
 | 3,_=>exact⟨_,rfl⟩
 | 4,_=>exact⟨_,rfl⟩
 | 5,_=>exact⟨_,rfl⟩
def Row(base:Nat)(w:World)(g c:Nat)(xs:List Int):Prop:=w.ownsRow base 2 1 (.slice (some ⟨g,0,none⟩) xs.length c) xs.length (xs.map (Value.int .i64))
theorem Zk0(q:Nat)(ao:Option Addr)(n cap m:Nat)(w:World)(hc:Cur w q ao n cap)(hv:ZW w ao n)(hn:n<=4096)(hm:m<=100):
 Calls Tryz.prog 180 #[.pointer (some ⟨q,0,none⟩),.int .i64 m] w fun e w'=>(∃g c xs,e=.returned (.slice (some ⟨g,0,none⟩) xs.length c)/\xs.length=m/\Row w.heap.size w' g c xs)/\Cur w' q ao n cap/\w.grownBy w' (some q):=by
 have hq:=hc.lt
 obtain⟨i0,hi0,hz0,hz1,hz2⟩:=info_parts Tryz.info2
 go_enter Tryz.func180,Tryz.ntmps180
 go_wp2_with fail
 go_loopw [1,5] (fun s v wr=>∃(xs:List Int) (g c:Nat),xs.length<=m/\s=.int .i64 ((m:Int)-xs.length)/\v=.slice (some ⟨g,0,none⟩) xs.length c/\Row w.heap.size wr g c xs/\Cur wr q ao n cap/\w.grownBy wr (some q)) (fun s _ _=>(intOf s).toNat)
 case atStart=>
  exact⟨[],w.heap.size,0,Nat.zero_le _,by simp,rfl,World.ownsRow_lit w #[] 0 (Nat.le_refl _) (Nat.zero_le _) rfl,hc.alloc _,World.grownBy_alloc w _ _⟩
 case round=>
  obtain⟨xs,g,c,hk,rfl,rfl,hrow,hcr,hg⟩:=hrel
  have hvr:=hv.grown hc hg
  have hgl:=hrow.lt g rfl
  by_cases hlt:xs.length<m
  · go_wp2_with fail
    refine (Zg4 q ao n cap (-6) 13 _ hcr hvr hn (by omega) (by omega) (by omega) (by omega)).mono ?_
    rintro e w1 ⟨⟨x,hx0,hx1,rfl⟩,c1,g1⟩
    have hrow1:Row w.heap.size w1 g c xs:=World.ownsRow.kept hrow g1 (Or.inr (by simp [Value.ownBlock];omega))
    have hs1:=g1.size
    clear hrow hcr hvr
    go_wp2_with (at_builtin;refine wpList_append_lies _ rfl (.tmp 11) (.tmp 14) 27 rfl w.heap.size 2 i0 _ 1 8 Tryz.underlying27 hi0 hz0 hz1 hz2 rfl (by omega) (.slice (some ⟨g,0,none⟩) xs.length c) xs.length (xs.map (Value.int .i64)) rfl (World.ownsRow.alloc hrow1 _) ⟨w1.heap.size,0,none⟩ 1 1 [.int .i64 x] rfl rfl (World.news_of_block (cs:=#[.int .i64 x]) (t:=2) (fr:=(0,0)) (heap_alloc_new w1 _)) (by simp [Value.oneCell']) (by omega) (by unfold maxLen;omega) (by omega) (by simp;omega) (w1.heap.size+1) (by simp) ?_;intro gg cc w2 hown2 hgrow hat hlt1)
    go_wp2
    go_roundw
    case rel=>
     refine⟨xs++[x],gg,cc,by simp;omega,?_,?_,?_,?_,?_⟩
     · rw [List.length_append,List.length_singleton,show ((xs.length+1:Nat):Int)=(xs.length:Int)+1 by omega];congr 1;omega
     · rw [List.length_append,List.length_singleton]
     · unfold Row;rw [List.length_append,List.length_singleton,List.map_append];exact hown2
     · exact (c1.alloc _).grown hgrow (by simp [Value.ownBlock];omega)
     · exact ZaF (ZaF (Zh hg g1) (World.grownBy_alloc w1 _ none) (by simp)) hgrow (by intro k hk;simp [Value.ownBlock] at hk;omega)
    case measure=>simp [intOf];omega
  · have hml:xs.length=m:=by omega
    go_wp2_with fail
    refine (ZeU q ao n cap 20 _ hcr hvr hn (by omega) (by omega)).mono ?_
    rintro e w1 ⟨⟨x,rfl⟩,c1,g1⟩
    have hrow1:Row w.heap.size w1 g c xs:=World.ownsRow.kept hrow g1 (Or.inr (by simp [Value.ownBlock];omega))
    have hg1:=Zh hg g1
    have hv1:=hv.grown hc hg1
    have hs1:=g1.size
    have HM:=Zh2 hml
    clear hrow hcr hvr g1 hg hml
    cases x with
    | false=>
      go_wp2_with fail
      go_ret
      exact⟨⟨g,c,xs,rfl,HM.out,hrow1⟩,c1,hg1⟩
    | true=>
      by_cases h0:xs.length=0
      · have h0b:¬((0:Int)<(xs.length:Int)):=by omega
        have H0:=Zh2 h0
        clear h0
        go_wp2_with fail
        go_ret
        exact⟨⟨g,c,xs,rfl,HM.out,hrow1⟩,c1,hg1⟩
      · have h0b:(0:Int)<(xs.length:Int):=by omega
        go_wp2_with fail
        refine (ZaV q ao n cap 6 _ (c1.alloc _) (hv.grown hc (ZaF hg1 (World.grownBy_alloc w1 _ none) (by simp))) hn (by omega) (by omega)).mono ?_
        rintro e w2 ⟨⟨y,hy0,hy1,rfl⟩,c2,g2⟩
        obtain⟨yn,rfl⟩:=Int.eq_ofNat_of_zero_le hy0
        obtain⟨v,hv6⟩:=ZoB yn (by omega)
        have ht:w2.cell? ⟨w1.heap.size,yn,none⟩=some (.int .i64 v):=g2.cell (by rw [World.cell?_alloc_at _ _ _ _ rfl];exact hv6) (by simp;omega)
        have hrow2:Row w.heap.size w2 g c xs:=World.ownsRow.kept (World.ownsRow.alloc hrow1 _) g2 (Or.inr (by simp [Value.ownBlock];omega))
        have hl0:0<(xs.map (Value.int .i64)).length:=by simp;omega
        have hcg:=World.ownsRow.cellAt hrow2 0 (by omega)
        rw [List.getElem?_eq_getElem hl0] at hcg
        have hfg:=World.ownsRow.frozenAt hrow2 0
        have R:=World.ownsRow.stored hrow2 0 (.int .i64 v)
        have HR:=Zh2 R
        clear R
        have hy2:(yn:Int)<6:=by omega
        have hgw:=ZaF (Zh hg1 (ZI _ _)) (World.grownBy_alloc w1 (.cells #[.int .i64 1000,.int .i64 (-1000),.int .i64 1001,.int .i64 (-1001),.int .i64 4611686018427387904,.int .i64 (-9223372036854775808)] 2) none) (by simp)
        have hgw2:=Zh hgw g2
        clear g2 hgw hg1 hrow1
        go_wp2_with fail
        go_ret
        have e1:(xs.set 0 v).length=xs.length:=by simp
        refine⟨⟨g,c,xs.set 0 v,?_,by rw [e1];exact HM.out,?_⟩,?_,?_⟩
        · rw [e1];rfl
        · unfold Row;rw [e1,List.map_set];exact HR.out.1
        · exact c2.grown HR.out.2 (by simp;omega)
        · exact ZaF hgw2 HR.out.2 (by intro k hk;cases hk;omega)
theorem cAny(q:Nat)(ao:Option Addr)(n cap m:Nat)(w:World)(hc:Cur w q ao n cap)(hv:ZW w ao n)(hn:n<=4096)(hm:m<=99):
 Calls Tryz.prog 98 #[.pointer (some ⟨q,0,none⟩),.int .i64 m] w fun e w'=>(∃g c xs,e=.returned (.slice (some ⟨g,0,none⟩) xs.length c)/\xs.length<=m+1/\Row w.heap.size w' g c xs)/\Cur w' q ao n cap/\w.grownBy w' (some q):=by
 have hq:=hc.lt
 obtain⟨i0,hi0,hz0,hz1,hz2⟩:=info_parts Tryz.info2
 go_enter Tryz.func98,Tryz.ntmps98
 go_wp2_with fail
 refine (Zk0 q ao n cap m _ hc hv hn (by omega)).mono ?_
 rintro e w1 ⟨⟨g,c,xs,rfl,hl,hrow⟩,c1,g1⟩
 have hv1:=hv.grown hc g1
 have hgl:=hrow.lt g rfl
 have hl2:xs.length<=m:=by omega
 clear hl
 go_wp2_with fail
 refine (ZeU q ao n cap 20 _ c1 hv1 hn (by omega) (by omega)).mono ?_
 rintro e w2 ⟨⟨x,rfl⟩,c2,g2⟩
 have hrow2:Row w.heap.size w2 g c xs:=World.ownsRow.kept hrow g2 (Or.inr (by simp [Value.ownBlock];omega))
 have hg2:=Zh g1 g2
 have hs2:=hg2.size
 clear hrow c1 g1 g2 hv1
 cases x with
 | false=>
   go_wp2_with fail
   go_ret
   exact⟨⟨g,c,xs,rfl,by omega,hrow2⟩,c2,hg2⟩
 | true=>
   go_wp2_with (at_builtin;refine wpList_append_lies _ rfl (.tmp 11) (.tmp 12) 27 rfl w.heap.size 2 i0 _ 1 8 Tryz.underlying27 hi0 hz0 hz1 hz2 rfl (by omega) (.slice (some ⟨g,0,none⟩) xs.length c) xs.length (xs.map (Value.int .i64)) rfl (World.ownsRow.alloc hrow2 _) ⟨w2.heap.size,0,none⟩ 1 1 [.int .i64 1] rfl rfl (World.news_of_block (cs:=#[.int .i64 1]) (t:=2) (fr:=(0,0)) (heap_alloc_new w2 _)) (by simp [Value.oneCell']) (by omega) (by unfold maxLen;omega) (by omega) (by simp;omega) (w2.heap.size+1) (by simp) ?_;intro gg cc w3 hown3 hgrow hat hlt1)
   go_ret
   refine⟨⟨gg,cc,xs++[1],?_,by simp;omega,?_⟩,?_,?_⟩
   · rw [List.length_append,List.length_singleton];rfl
   · unfold Row;rw [List.length_append,List.length_singleton,List.map_append];exact hown3
   · exact (c2.alloc _).grown hgrow (by simp [Value.ownBlock];omega)
   · exact ZaF (ZaF hg2 (World.grownBy_alloc w2 _ none) (by simp)) hgrow (by intro k hk;simp [Value.ownBlock] at hk;omega)
theorem Row.view{base:Nat}{w:World}{g c:Nat}{xs:List Int}(h:Row base w g c xs):Zs w (some ⟨g,0,none⟩) xs:=Zml h
theorem ZW.below{w w':World}{B:Nat}{ao:Option Addr}{n:Nat}(hv:ZW w ao n)(hB:w.heap.size<=B)(hw:Below B w w'):ZW w' ao n:=by
 rcases hv with h | ⟨b,off,rfl,hb,hby⟩
 · exact Or.inl h
 · exact Or.inr ⟨b,off,rfl,Nat.lt_of_lt_of_le hb hw.size,fun j hj=>by
    obtain⟨x,h1,h2,hx⟩:=hby j hj
    exact⟨x,h1,h2,(hw.cell (p:=⟨b,off+j,none⟩) (by show b<B;omega)).trans hx⟩⟩
theorem Zmo(ao ao':Option Addr)(n n' cap cap':Nat)(w:World)(h:n≠n'):
 Calls Tryz.prog 62 #[.slice ao n cap,.slice ao' n' cap'] w fun e w'=>e=.returned (.bool false)/\w'=w:=by
 have hlb:((n:Int) !=(n':Int))=true:=by simp;omega
 go_enter Tryz.func62,Tryz.ntmps62
 go_wp2
 go_ret
 exact⟨rfl,rfl⟩
theorem Zgi(ao ao':Option Addr)(cap cap':Nat)(w:World):
 Calls Tryz.prog 62 #[.slice ao 0 cap,.slice ao' 0 cap'] w fun e w'=>e=.returned (.bool true)/\w'=w:=by
 go_enter Tryz.func62,Tryz.ntmps62
 go_wp2
 refine wp_loop_rounds 1 ?_
 rw [rounds_succ]
 go_wp2
 go_ret
 exact⟨rfl,rfl⟩
theorem ZkL(b off cap b' off' cap':Nat)(xs ys:List Int)(w:World)(hs:Seg w b off xs)(hs':Seg w b' off' ys)(hn:xs.length<=1048576)(hl:xs.length=ys.length):
 Calls Tryz.prog 62 #[.slice (some ⟨b,off,none⟩) xs.length cap,.slice (some ⟨b',off',none⟩) ys.length cap'] w fun e w'=>e=.returned (.bool (decide (xs=ys)))/\∃n,w'=w.drewN n:=by
 have hlb:((xs.length:Int) !=(ys.length:Int))=false:=by simp [hl]
 have HL:Hid (xs.length=ys.length):=hl
 have hn':ys.length<=1048576:=by omega
 clear hl
 go_enter Tryz.func62,Tryz.ntmps62
 go_wp2
 go_loopw [5] (fun i wr=>∃k:Nat,k<=xs.length/\i=.int .i64 k/\(∀j,j<k->nth xs j=nth ys j)/\∃n,wr=w.drewN n) (fun i _=>xs.length-(intOf i).toNat)
 case atStart=>exact⟨0,Nat.zero_le _,rfl,fun j hj=>by omega,0,rfl⟩
 case round=>
  obtain⟨k,hk,rfl,hall,n,rfl⟩:=hrel
  have HA:Hid (∀j,j<k->nth xs j=nth ys j):=hall
  clear hall
  by_cases hlt:k<xs.length
  · have hc:=hs k hlt
    have hlt':k<ys.length:=by have:=HL.out;omega
    have hc':=hs' k hlt'
    by_cases he:nth xs k=nth ys k
    · have heb:(nth xs k !=nth ys k)=false:=by simp [he]
      have HE:Hid (nth xs k=nth ys k):=he
      clear he
      go_wp2
      go_quiet (fail)
      go_wp2
      go_roundw
      case rel=>exact⟨k+1,by omega,by go_num,fun j hj=>by
       rcases Nat.lt_or_ge j k with h | h
       · exact HA.out j h
       · rw [show j=k by omega];exact HE.out,_,rfl⟩
      case measure=>simp [intOf];omega
    · have heb:(nth xs k !=nth ys k)=true:=by simp [he]
      have HE:Hid (¬nth xs k=nth ys k):=he
      clear he
      go_wp2
      go_quiet (fail)
      go_wp2
      go_ret
      exact⟨Zg (Eq.symm (decide_eq_false (fun h=>HE.out (by rw [h])))),n+nq,by simp⟩
  · go_wp2
    go_ret
    obtain rfl:k=xs.length:=by omega
    exact⟨Zg (Eq.symm (decide_eq_true (Zd7 HL.out HA.out))),_,rfl⟩
theorem ZnD(ao ao':Option Addr)(cap cap':Nat)(xs ys:List Int)(w:World)(hv:Zs w ao xs)(hv':Zs w ao' ys)(hn:xs.length<=1048576):
 Calls Tryz.prog 62 #[.slice ao xs.length cap,.slice ao' ys.length cap'] w fun e w'=>e=.returned (.bool (decide (xs=ys)))/\∃n,w'=w.drewN n:=by
 by_cases hl:xs.length=ys.length
 · rcases hv with rfl | ⟨b,off,rfl,_,hs⟩
   · obtain rfl:ys=[]:=List.eq_nil_of_length_eq_zero (by simpa using hl.symm)
     refine (Zgi ao ao' cap cap' w).mono ?_
     rintro e w' ⟨rfl,rfl⟩
     exact⟨rfl,0,rfl⟩
   · rcases hv' with rfl | ⟨b',off',rfl,_,hs'⟩
     · obtain rfl:xs=[]:=List.eq_nil_of_length_eq_zero (by simpa using hl)
       refine (Zgi _ ao' cap cap' w).mono ?_
       rintro e w' ⟨rfl,rfl⟩
       exact⟨rfl,0,rfl⟩
     · exact ZkL b off cap b' off' cap' xs ys w hs hs' hn hl
 · refine (Zmo ao ao' xs.length ys.length cap cap' w hl).mono ?_
   rintro e w' ⟨rfl,rfl⟩
   exact⟨Zg (Eq.symm (decide_eq_false (fun h=>hl (by rw [h])))),0,rfl⟩
end Go.Proofs.YtaaagmgglolibaaGreat
