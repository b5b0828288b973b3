import Derived.Test.YtilkaeclgmcolaaGreatPutZz
import Derived.Test.YtilkaeclgmcolaaGreatMathZz
import Derived.Test.YtilkaeclgmcolaaGreatAppendZz
import Derived.Test.YtilkaeclgmcolaaGreatArgsZz
import Derived.Lib.AppendZerosOnto
import Derived.Test.YtilkaeclgmcolaaGreatBMarkZz
import Derived.Test.YtilkaeclgmcolaaGreatBCopyZz
import Derived.Test.YtilkaeclgmcolaaGreatLastZz
import Derived.Test.YtilkaeclgmcolaaGreatMMarkZz
import Derived.Test.YtilkaeclgmcolaaGreatFeHmZz
import Derived.Test.YtilkaeclgmcolaaGreatFeHelpZz
import Derived.Test.YtilkaeclgmcolaaGreatHSpecZz
import Derived.Deep.CutRange
import Derived.Test.YtilkaeclgmcolaaGreatMCellsZz
set_option maxRecDepth 100000
set_option maxHeartbeats 4000000
namespace Go.Proofs.YtilkaeclgmcolaaGreat
open Go Go.RowKit
def Zlw(w:World)(b off:Nat)(ds:List Sm):Prop:=∀i,i<ds.length->w.cell? ⟨b,off+i*2,none⟩=some (.int .i64 (Zdb ds i).1)/\w.cell? ⟨b,off+i*2+1,none⟩=some (.slice (Zdb ds i).2.1 (Zdb ds i).2.2.2.length (Zdb ds i).2.2.1)
def ZdD(w:World)(ao:Option Addr)(ds:List Sm):Prop:=ds=[]\/∃b off,ao=some ⟨b,off,none⟩/\b<w.heap.size/\Zlw w b off ds
theorem Zlw.below{w w':World}{B b off:Nat}{ds:List Sm}(h:Zlw w b off ds)(hb:b<B)(hw:Below B w w'):Zlw w' b off ds:=fun i hi=>
 ⟨(hw.cell (p:=⟨b,off+i*2,none⟩) hb).trans (h i hi).1,(hw.cell (p:=⟨b,off+i*2+1,none⟩) hb).trans (h i hi).2⟩
theorem ZdD.below{w w':World}{B:Nat}{ao:Option Addr}{ds:List Sm}(h:ZdD w ao ds)(hB:w.heap.size<=B)(hw:Below B w w'):ZdD w' ao ds:=by
 rcases h with h | ⟨b,off,e,hb,hs⟩
 · exact Or.inl h
 · exact Or.inr ⟨b,off,e,Nat.lt_of_lt_of_le hb hw.size,hs.below (Nat.lt_of_lt_of_le hb hB) hw⟩
theorem ZdD.next{w w':World}{ao:Option Addr}{ds:List Sm}(h:ZdD w ao ds)(hw:Below w.heap.size w w'):ZdD w' ao ds:=h.below (Nat.le_refl _) hw
theorem ZiE(ds:List Sm):∀u∈Zah ds,u.oneCell'=true:=by
 induction ds with
 | nil=>intro u a;cases a
 | cons d ds ih=>
   intro u a
   simp only [Zah,List.mem_cons] at a
   rcases a with rfl | rfl | a
   · rfl
   · rfl
   · exact ih u a
theorem Zlw.cells{w:World}{b off:Nat}{ds:List Sm}(h:Zlw w b off ds):∀j u,(Zah ds)[j]? =some u->w.cell? ((⟨b,off,none⟩:Addr).add j)=some u:=by
 intro j u a
 have g:j<(Zah ds).length:=by
  rcases Nat.lt_or_ge j (Zah ds).length with h1 | h1
  · exact h1
  · rw [List.getElem?_eq_none h1] at a;cases a
 rw [Zdh] at g
 rw [Go.WideShapes.add_plain]
 have c:j / 2<ds.length:=by omega
 obtain⟨c0,c1⟩:=Zf7 ds (j / 2) c
 obtain⟨d,f⟩:=h (j / 2) c
 rcases Nat.mod_two_eq_zero_or_one j with hm | hm
 · have e:j=j / 2*2:=by omega
   rw [<-e] at c0 d
   rw [c0] at a
   injection a with a
   subst a
   exact d
 · have e:j=j / 2*2+1:=by omega
   rw [<-e] at c1
   rw [c1] at a
   injection a with a
   subst a
   rw [show off+j / 2*2+1=off+j by omega] at f
   exact f
theorem ZdD.src{w:World}{ao:Option Addr}{ds:List Sm}(h:ZdD w ao ds):ZX w 2 ao ds.length (Zah ds):=
 ⟨Zdh ds,ZiE ds,by
  rcases h with h | ⟨b,off,e,hb,hs⟩
  · subst h;exact Or.inl rfl
  · exact Or.inr ⟨_,e,hs.cells⟩⟩
theorem ZeY.of{base:Nat}{w:World}{g c n:Nat}{ds:List Sm}{xs:List Value}(h:w.ownsRow base 161 2 (.slice (some ⟨g,0,none⟩) n c) n xs)(hn:n=ds.length)(hx:xs=Zah ds):ZeY base w g c ds:=by
 subst hn hx;exact h
theorem ZjJ(n:Nat):(Builtin.zeroCells #[.int .i64 0,.slice none 0 0] n).size=n*2:=by simp [Builtin.zeroCells]
theorem ZpF(n:Nat)(w:World)(h0:0<n)(hn:n<=4194304):
 Calls Tryz.prog 210 #[.slice none 0 0,.int .i64 n] w fun e w'=>∃c,e=.returned (.slice (some ⟨w.heap.size,0,none⟩) 0 c)/\ZeY w.heap.size w' w.heap.size c []/\Below w.heap.size w w':=by
 obtain⟨j,g,i,o,f⟩:=info_parts Tryz.info161
 have a:(Builtin.firstCells j.size 0 (.slice none 0 0)).run Tryz.prog w.drew=.ok (([]:List Value).toArray) w.drew:=run_firstCells_none w.drew j.size 0 0 0
 have b:=fun m=>Lib.run_append_grow_zeros (P:=Tryz.prog) w 36 3 m 161 j _ .i64 .i64 Tryz.underlying36 Tryz.underlying3 g i none 0 0 [] a n h0 (by omega) (by omega) (by omega) (by rw [f];omega) (growslice_fits (by omega) (by rw [f];omega))
 rw [Nat.zero_add] at b
 have h:=grownCap_ge w n 0 161
 have d:=grownCap_le_maxLen w n 0 161 (by unfold maxLen;omega)
 obtain⟨G,l⟩:∃G,G=grownCap w n 0 161:=⟨_,rfl⟩
 rw [<-l] at b h d
 have p:wrap64 ((n:Int)-(0-0))=(n:Int):=by unfold wrap64;omega
 have k:Hid (ZeY w.heap.size (w.alloc (.cells (Builtin.zeroCells #[.int .i64 0,.slice none 0 0] n++Builtin.zeroCells #[.int .i64 0,.slice none 0 0] (G-n)) 161)).drew w.heap.size G []/\Below w.heap.size w (w.alloc (.cells (Builtin.zeroCells #[.int .i64 0,.slice none 0 0] n++Builtin.zeroCells #[.int .i64 0,.slice none 0 0] (G-n)) 161)).drew):=by
  refine⟨World.ownsRow_made (base:=w.heap.size) (e:=161) (size:=2) w _ G (Nat.le_refl _) d ?_,((Below.refl w.heap.size w).alloc (Nat.le_refl _) _).drew⟩
  simp only [Array.size_append,ZjJ]
  omega
 clear l a
 go_enter Tryz.func210,Tryz.ntmps210
 go_wp2_with (at_builtin;refine Lib.wpList_append_run _ rfl _ _ _ _ rfl _ _ rfl rfl _ _ (b _) ?_)
 go_ret
 exact⟨G,rfl,k.out.1,k.out.2⟩
abbrev RwC:=Option Addr×Nat×List Sm
def Zbf(L:List RwC):List Sm:=L.flatMap (·.2.2)
theorem ZeC{L:List RwC}{k:Nat}(h:k<L.length):Zbf (L.take (k+1))=Zbf (L.take k)++L[k].2.2:=by
 unfold Zbf
 rw [List.take_add_one,List.getElem?_eq_getElem h,List.flatMap_append]
 congr 1
 simp
theorem ZiF{L:List RwC}{k:Nat}:(Zbf (L.take k)).length<=(Zbf L).length:=by
 have e:Zbf L=Zbf (L.take k)++Zbf (L.drop k):=by
  unfold Zbf
  rw [<-List.flatMap_append,List.take_append_drop]
 rw [e];simp
theorem ZoO{y:Int}(h0:0<=y)(h1:y<=4194304):wrap64 y=y:=by unfold wrap64;omega
theorem ZmQ(A cap:Nat)(L:List RwC)(w:World)(hA:A<w.heap.size)(hc:∀i (h:i<L.length),w.cell? ⟨A,i,none⟩=some (.slice L[i].1 L[i].2.2.length L[i].2.1))(hv:∀i (h:i<L.length),ZdD w L[i].1 L[i].2.2)(hL:L.length<=60)(h60:(Zbf L).length<=2097152)(hpos:0<(Zbf L).length):
 Calls Tryz.prog 194 #[.slice (some ⟨A,0,none⟩) L.length cap] w fun e w'=>∃g c,e=.returned (.slice (some ⟨g,0,none⟩) (Zbf L).length c)/\ZeY w.heap.size w' g c (Zbf L)/\Below w.heap.size w w':=by
 obtain⟨R,B,y,E,r⟩:=info_parts Tryz.info161
 have z:=Za (And.intro hc hv)
 clear hc hv
 go_enter Tryz.func194,Tryz.ntmps194
 go_wp2
 go_loop [3,11] (fun s i=>∃k:Nat,k<=L.length/\i=.int .i64 k/\s=.int .i64 ((Zbf (L.take k)).length:Nat)) (fun _ i=>L.length-(intOf i).toNat)
 case atStart=>exact⟨0,by omega,rfl,rfl⟩
 case round=>
  obtain⟨k,G,rfl,rfl⟩:=hrel
  by_cases hlt:k<L.length
  · have D:=z.out.1 k hlt
    have a:(Zbf (L.take (k+1))).length=(Zbf (L.take k)).length+L[k].2.2.length:=by rw [ZeC hlt,List.length_append]
    have d:=ZiF (L:=L) (k:=k+1)
    have F:=n0Z k
    have t:(k:Int)<(L.length:Int):=by omega
    have j:=Za a
    have W:(Zbf (L.take k)).length+L[k].2.2.length<=2097152:=by omega
    clear d a
    generalize (Zbf (L.take k)).length=N at *
    generalize L[k]=x at *
    have x1:wrap64 ((N:Int)+(x.2.2.length:Int))=(N:Int)+(x.2.2.length:Int):=ZoO (by omega) (by omega)
    have d0:¬((N:Int)+(x.2.2.length:Int)<0):=by omega
    go_wp2
    go_round
    case rel=>exact⟨k+1,by omega,by go_num,by rw [j.out];go_num⟩
    case measure=>simp [intOf];omega
  · obtain rfl:k=L.length:=by omega
    have m:L.take L.length=L:=List.take_length
    rw [m]
    clear m
    have P:=Za (ZpF (Zbf L).length w hpos (by omega))
    go_wp2_with fail
    refine P.out.mono ?_
    rintro e w1 ⟨c1,rfl,q,Q⟩
    have b:=Za (And.intro q Q)
    clear q Q P
    go_wp2
    go_loopw [6,27] (fun v i wr=>∃(k g c:Nat),k<=L.length/\i=.int .i64 k/\v=.slice (some ⟨g,0,none⟩) (Zbf (L.take k)).length c/\ZeY w.heap.size wr g c (Zbf (L.take k))/\Below w.heap.size w wr) (fun _ i _=>L.length-(intOf i).toNat)
    case atStart=>exact⟨0,w.heap.size,c1,by omega,rfl,rfl,b.out.1,b.out.2⟩
    case round=>
     clear b
     obtain⟨k,g,c,G,rfl,rfl,n,l⟩:=hrel
     by_cases hlt:k<L.length
     · have K:=l.size
       have Z:=Za l
       have D:=(l.cell (p:=⟨A,k,none⟩) hA).trans (z.out.1 k hlt)
       have X:=Za ((z.out.2 k hlt).next l).src
       have V:=n.lt
       have d:=ZiF (L:=L) (k:=k+1)
       have u:=Za (ZeC hlt)
       have S:=Za n
       have a:(Zbf (L.take (k+1))).length=(Zbf (L.take k)).length+L[k].2.2.length:=by rw [ZeC hlt,List.length_append]
       have F:=n0Z k
       have t:(k:Int)<(L.length:Int):=by omega
       clear n l
       have T:(Zbf (L.take k)).length+L[k].2.2.length<=2097152:=by omega
       have j:=Za a
       clear d a
       generalize Zbf (L.take k)=M at *
       generalize L[k]=x at *
       go_wp2_with (at_builtin;refine Zw _ rfl (.tmp 31) (.tmp 32) 36 rfl w.heap.size 161 R _ 2 32 Tryz.underlying36 B y E r rfl (by omega) g M.length c (Zah M) rfl S.out x.1 x.2.2.length x.2.1 (Zah x.2.2) rfl X.out (by unfold maxLen;omega) (by omega) K wr.heap.size rfl ?_;intro J H U o f Y I)
       go_wp2
       have C:ZeY w.heap.size U J H (Zbf (L.take (k+1))):=by rw [u.out];exact ZeY.of o (by simp) (Zf6 M x.2.2).symm
       go_roundw
       case rel=>exact⟨k+1,J,H,by omega,by go_num,by rw [j.out],C,Z.out.grown f K (by intro k G;cases G;omega)⟩
       case measure=>simp [intOf];omega
     · obtain rfl:k=L.length:=by omega
       have m:L.take L.length=L:=List.take_length
       rw [m] at n
       rw [m]
       have O:=Za (And.intro n l)
       clear n l m
       go_wp2
       go_ret
       exact⟨g,c,rfl,O.out.1,O.out.2⟩
def VR(base:Nat)(w:World)(g c:Nat)(vs:List Value):Prop:=w.ownsRow base 31 1 (.slice (some ⟨g,0,none⟩) vs.length c) vs.length vs
theorem VR.lt{base:Nat}{w:World}{g c:Nat}{vs:List Value}(h:VR base w g c vs):base<=g/\g<w.heap.size:=World.ownsRow.lt h g rfl
theorem VR.of15{base:Nat}{w:World}{g c n:Nat}{vs xs:List Value}(h:w.ownsRow base 31 1 (.slice (some ⟨g,0,none⟩) n c) n xs)(hn:n=vs.length)(hx:xs=vs):VR base w g c vs:=by
 subst hn hx;exact h
theorem Tryz.info31:(Tryz.prog.info? 31).map (fun i=>(i.zero,i.size,i.bytes))=some (some (.slice none 0 0),1,24):=by kernel_rfl
theorem ZjK(n:Nat):(Builtin.zeroCells #[.slice none 0 0] n).size=n*1:=by simp [Builtin.zeroCells]
theorem ZgB{w w':World}{ao:Option Addr}{vs:List Value}(h:ZX w 1 ao vs.length vs)(hb:∀a,ao=some a->vs≠[]->a.block<w.heap.size)(L:Below w.heap.size w w'):ZX w' 1 ao vs.length vs:=by
 obtain⟨f,i,b⟩:=h
 refine⟨f,i,?_⟩
 rcases b with b | ⟨a,e,b⟩
 · exact Or.inl b
 · refine Or.inr ⟨a,e,fun j u c=>?_⟩
   have d:=hb a e (fun g=>by rw [g] at c;simp at c)
   rw [<-b j u c]
   refine World.cell?_of_block ?_
   have:((a.add j).block)=a.block:=by unfold Addr.add;split <;> rfl
   rw [this]
   exact L.block _ d
abbrev RwL:=Option Addr×Nat×List Value
def Zbg(L:List RwL):List Value:=L.flatMap (·.2.2)
theorem ZeD{L:List RwL}{k:Nat}(h:k<L.length):Zbg (L.take (k+1))=Zbg (L.take k)++L[k].2.2:=by
 unfold Zbg
 rw [List.take_add_one,List.getElem?_eq_getElem h,List.flatMap_append]
 congr 1
 simp
theorem ZiG{L:List RwL}{k:Nat}:(Zbg (L.take k)).length<=(Zbg L).length:=by
 have e:Zbg L=Zbg (L.take k)++Zbg (L.drop k):=by
  unfold Zbg
  rw [<-List.flatMap_append,List.take_append_drop]
 rw [e];simp
theorem ZpG(n:Nat)(w:World)(h0:0<n)(hn:n<=4194304):
 Calls Tryz.prog 211 #[.slice none 0 0,.int .i64 n] w fun e w'=>∃c,e=.returned (.slice (some ⟨w.heap.size,0,none⟩) 0 c)/\VR w.heap.size w' w.heap.size c []/\Below w.heap.size w w':=by
 obtain⟨j,g,i,o,f⟩:=info_parts Tryz.info31
 have a:(Builtin.firstCells j.size 0 (.slice none 0 0)).run Tryz.prog w.drew=.ok (([]:List Value).toArray) w.drew:=run_firstCells_none w.drew j.size 0 0 0
 have b:=fun m=>Lib.run_append_grow_zeros (P:=Tryz.prog) w 156 3 m 31 j _ .i64 .i64 Tryz.underlying156 Tryz.underlying3 g i none 0 0 [] a n h0 (by omega) (by omega) (by omega) (by rw [f];omega) (growslice_fits (by omega) (by rw [f];omega))
 rw [Nat.zero_add] at b
 have h:=grownCap_ge w n 0 31
 have d:=grownCap_le_maxLen w n 0 31 (by unfold maxLen;omega)
 obtain⟨G,l⟩:∃G,G=grownCap w n 0 31:=⟨_,rfl⟩
 rw [<-l] at b h d
 have p:wrap64 ((n:Int)-(0-0))=(n:Int):=by unfold wrap64;omega
 have k:Hid (VR w.heap.size (w.alloc (.cells (Builtin.zeroCells #[.slice none 0 0] n++Builtin.zeroCells #[.slice none 0 0] (G-n)) 31)).drew w.heap.size G []/\Below w.heap.size w (w.alloc (.cells (Builtin.zeroCells #[.slice none 0 0] n++Builtin.zeroCells #[.slice none 0 0] (G-n)) 31)).drew):=by
  refine⟨World.ownsRow_made (base:=w.heap.size) (e:=31) (size:=1) w _ G (Nat.le_refl _) d ?_,((Below.refl w.heap.size w).alloc (Nat.le_refl _) _).drew⟩
  simp only [Array.size_append,ZjK]
  omega
 clear l a
 go_enter Tryz.func211,Tryz.ntmps211
 go_wp2_with (at_builtin;refine Lib.wpList_append_run _ rfl _ _ _ _ rfl _ _ rfl rfl _ _ (b _) ?_)
 go_ret
 exact⟨G,rfl,k.out.1,k.out.2⟩
theorem ZmR(A cap:Nat)(L:List RwL)(w:World)(hA:A<w.heap.size)(hc:∀i (h:i<L.length),w.cell? ⟨A,i,none⟩=some (.slice L[i].1 L[i].2.2.length L[i].2.1))(hv:∀i (h:i<L.length),ZX w 1 L[i].1 L[i].2.2.length L[i].2.2/\∀a,L[i].1=some a->L[i].2.2≠[]->a.block<w.heap.size)(hL:L.length<=60)(h60:(Zbg L).length<=2097152)(hpos:0<(Zbg L).length):
 Calls Tryz.prog 195 #[.slice (some ⟨A,0,none⟩) L.length cap] w fun e w'=>∃g c,e=.returned (.slice (some ⟨g,0,none⟩) (Zbg L).length c)/\VR w.heap.size w' g c (Zbg L)/\Below w.heap.size w w':=by
 obtain⟨S,C,B,F,u⟩:=info_parts Tryz.info31
 have t:=Za (And.intro hc hv)
 clear hc hv
 go_enter Tryz.func195,Tryz.ntmps195
 go_wp2
 go_loop [3,11] (fun s i=>∃k:Nat,k<=L.length/\i=.int .i64 k/\s=.int .i64 ((Zbg (L.take k)).length:Nat)) (fun _ i=>L.length-(intOf i).toNat)
 case atStart=>exact⟨0,by omega,rfl,rfl⟩
 case round=>
  obtain⟨k,H,rfl,rfl⟩:=hrel
  by_cases hlt:k<L.length
  · have E:=t.out.1 k hlt
    have b:(Zbg (L.take (k+1))).length=(Zbg (L.take k)).length+L[k].2.2.length:=by rw [ZeD hlt,List.length_append]
    have f:=ZiG (L:=L) (k:=k+1)
    have G:=n0Z k
    have y:(k:Int)<(L.length:Int):=by omega
    have l:=Za b
    have X:(Zbg (L.take k)).length+L[k].2.2.length<=2097152:=by omega
    clear f b
    generalize (Zbg (L.take k)).length=N at *
    generalize L[k]=x at *
    have x1:wrap64 ((N:Int)+(x.2.2.length:Int))=(N:Int)+(x.2.2.length:Int):=ZoO (by omega) (by omega)
    have d0:¬((N:Int)+(x.2.2.length:Int)<0):=by omega
    go_wp2
    go_round
    case rel=>exact⟨k+1,by omega,by go_num,by rw [l.out];go_num⟩
    case measure=>simp [intOf];omega
  · obtain rfl:k=L.length:=by omega
    have n:L.take L.length=L:=List.take_length
    rw [n]
    clear n
    have Q:=Za (ZpG (Zbg L).length w hpos (by omega))
    go_wp2_with fail
    refine Q.out.mono ?_
    rintro e w1 ⟨c1,rfl,r,R⟩
    have d:=Za (And.intro r R)
    clear r R Q
    go_wp2
    go_loopw [6,27] (fun v i wr=>∃(k g c:Nat),k<=L.length/\i=.int .i64 k/\v=.slice (some ⟨g,0,none⟩) (Zbg (L.take k)).length c/\VR w.heap.size wr g c (Zbg (L.take k))/\Below w.heap.size w wr) (fun _ i _=>L.length-(intOf i).toNat)
    case atStart=>exact⟨0,w.heap.size,c1,by omega,rfl,rfl,d.out.1,d.out.2⟩
    case round=>
     clear d
     obtain⟨k,g,c,H,rfl,rfl,o,m⟩:=hrel
     by_cases hlt:k<L.length
     · have O:=m.size
       have HB:=Za m
       have E:=(m.cell (p:=⟨A,k,none⟩) hA).trans (t.out.1 k hlt)
       have Y:=Za (ZgB (t.out.2 k hlt).1 (t.out.2 k hlt).2 m)
       have W:=o.lt
       have f:=ZiG (L:=L) (k:=k+1)
       have z:=Za (ZeD hlt)
       have T:=Za o
       have b:(Zbg (L.take (k+1))).length=(Zbg (L.take k)).length+L[k].2.2.length:=by rw [ZeD hlt,List.length_append]
       have G:=n0Z k
       have y:(k:Int)<(L.length:Int):=by omega
       clear o m
       have U:(Zbg (L.take k)).length+L[k].2.2.length<=2097152:=by omega
       have l:=Za b
       clear f b
       generalize Zbg (L.take k)=M at *
       generalize L[k]=x at *
       go_wp2_with (at_builtin;refine Zw _ rfl (.tmp 31) (.tmp 32) 156 rfl w.heap.size 31 S _ 1 24 Tryz.underlying156 C B F u rfl (by omega) g M.length c M rfl T.out x.1 x.2.2.length x.2.1 x.2.2 rfl Y.out (by unfold maxLen;omega) (by omega) O wr.heap.size rfl ?_;intro K I V q j Z J)
       go_wp2
       have D:VR w.heap.size V K I (Zbg (L.take (k+1))):=by rw [z.out];exact VR.of15 q (by simp) rfl
       go_roundw
       case rel=>exact⟨k+1,K,I,by omega,by go_num,by rw [l.out],D,HB.out.grown j O (by intro k H;cases H;omega)⟩
       case measure=>simp [intOf];omega
     · obtain rfl:k=L.length:=by omega
       have n:L.take L.length=L:=List.take_length
       rw [n] at o
       rw [n]
       have P:=Za (And.intro o m)
       clear o m n
       go_wp2
       go_ret
       exact⟨g,c,rfl,P.out.1,P.out.2⟩
theorem ZjL{w:World}{ao:Option Addr}{xs:List Int}(h:Zy w ao xs):ZX w 1 ao xs.length (xs.map (Value.int .i64)):=
 ⟨by simp,fun u hu=>by obtain⟨x,_,rfl⟩:=List.mem_map.1 hu;rfl,by
  rcases h with rfl | ⟨b,off,rfl,hb,hs⟩
  · exact Or.inl rfl
  · refine Or.inr ⟨_,rfl,fun j u hu=>?_⟩
    rw [Go.WideShapes.add_plain]
    have hj:j<xs.length:=by
     rcases Nat.lt_or_ge j xs.length with h1 | h1
     · exact h1
     · rw [List.getElem?_eq_none (by simpa using h1)] at hu;cases hu
    have e:(xs.map (Value.int .i64))[j]? =some (.int .i64 (nth xs j)):=by simp [nth,List.getD,hj]
    rw [e] at hu
    injection hu with hu
    rw [<-hu]
    exact hs j hj⟩
theorem Zlx(cap:Nat)(w:World):
 Calls Tryz.prog 166 #[.slice none 0 cap] w fun e w'=>e=.returned (.slice none 0 0)/\w'=w:=by
 have a:(binOp .eql 31 (.slice none 0 cap) (.slice none 0 0)).run Tryz.prog w=.ok (.bool true) w:=Lib.run_eql_slice_nil w 31 2 _ _ _ _ _ Tryz.underlying31
 go_enter Tryz.func166,Tryz.ntmps166
 go_wp2_with fail
 go_ret
 exact⟨rfl,rfl⟩
theorem Zf9(p:Addr)(cap:Nat)(xs:List Int)(w:World)(hv:Zy w (some p) xs)(hn:xs.length<=1048576):
 Calls Tryz.prog 166 #[.slice (some p) xs.length cap] w fun e w'=>∃g c,e=.returned (.slice (some ⟨g,0,none⟩) xs.length c)/\ZQ w.heap.size w' g c xs/\Below w.heap.size w w':=by
 obtain⟨o,f,h,j,i⟩:=info_parts Tryz.info2
 have d:Below w.heap.size w (w.alloc (.cells #[] 2)):=(Below.refl _ _).alloc (Nat.le_refl _) _
 have m:=Za (ZQ.start w w.heap.size (Nat.le_refl _))
 have v:=Za (ZjL (hv.next d))
 have q:=Za d
 have t:(binOp .eql 31 (.slice (some p) xs.length cap) (.slice none 0 0)).run Tryz.prog w=.ok (.bool false) w:=Lib.run_eql_slice_nil w 31 2 _ _ _ _ _ Tryz.underlying31
 clear d hv
 go_enter Tryz.func166,Tryz.ntmps166
 go_wp2_with (at_builtin;refine Zw _ rfl (.tmp 5) (.tmp 6) 31 rfl w.heap.size 2 o _ 1 8 Tryz.underlying31 f h j i rfl (by omega) w.heap.size 0 0 [] rfl m.out (some p) xs.length cap (xs.map (Value.int .i64)) rfl v.out (by unfold maxLen;omega) (by omega) (by simp) (w.heap.size+1) (by simp) ?_;intro r s x b a n l)
 go_ret
 exact⟨r,s,rfl,ZQ.of b (by omega) (by simp),q.out.grown a (by simp) (by intro k u;cases u;omega)⟩
theorem Znj(b off cap:Nat)(xs:List Int)(w:World)(hs:Seg w b off xs)(hb:b<w.heap.size)(hn:xs.length<=1048576):
 Calls Tryz.prog 166 #[.slice (some ⟨b,off,none⟩) xs.length cap] w fun e w'=>∃g c,e=.returned (.slice (some ⟨g,0,none⟩) xs.length c)/\ZQ w.heap.size w' g c xs/\Below w.heap.size w w':=
 Zf9 ⟨b,off,none⟩ cap xs w (Or.inr ⟨b,off,rfl,hb,hs⟩) hn
theorem Zob(ao:Option Addr)(cap:Nat)(xs:List Int)(w:World)(hv:Zy w ao xs)(hn:xs.length<=1048576):
 Calls Tryz.prog 166 #[.slice ao xs.length cap] w fun e w'=>∃v,e=.returned v/\w'.ownsRow w.heap.size 2 1 v xs.length (xs.map (Value.int .i64))/\Below w.heap.size w w':=by
 cases ao with
 | none=>
   obtain rfl:xs=[]:=by
    rcases hv with h | ⟨b,off,e,-⟩
    · exact h
    · cases e
   refine (Zlx cap w).mono ?_
   rintro e w' ⟨rfl,rfl⟩
   exact⟨_,rfl,⟨rfl,Or.inl ⟨rfl,rfl⟩⟩,Below.refl _ _⟩
 | some p=>
   refine (Zf9 p cap xs w hv hn).mono ?_
   rintro e w' ⟨g,c,rfl,a,L⟩
   exact⟨_,rfl,a,L⟩
theorem ZmE(m:Sm)(w:World)(hm:Zy w m.2.1 m.2.2.2)(h0:0<m.2.2.2.length)(hn:m.2.2.2.length<=1048576):
 Calls Tryz.prog 127 #[.agg #[.int .i64 m.1,.slice m.2.1 m.2.2.2.length m.2.2.1]] w fun e w'=>∃h c,e=.returned (.agg #[.int .i64 m.1,.slice (some ⟨h,0,none⟩) m.2.2.2.length c])/\ZQ w.heap.size w' h c m.2.2.2/\Below w.heap.size w w':=by
 obtain⟨a,j,l,r,o⟩:∃b off,m.2.1=some ⟨b,off,none⟩/\b<w.heap.size/\Seg w b off m.2.2.2:=by
  rcases hm with h | h
  · rw [h] at h0;simp at h0
  · exact h
 obtain⟨W,f⟩:∃W,W=(w.alloc (.cells #[.int .i64 m.1,.slice (some ⟨a,j,none⟩) m.2.2.2.length m.2.2.1] 161)).alloc (.cells #[.int .i64 0,.slice none 0 0] 161):=⟨_,rfl⟩
 have t:Below w.heap.size w W:=by rw [f];exact ((Below.refl _ _).alloc (Nat.le_refl _) _).alloc (by simp) _
 have F:W.heap.size=w.heap.size+2:=by rw [f];simp
 have x:W.cell? ⟨w.heap.size,0,none⟩=some (.int .i64 m.1):=by rw [f];go_simp
 have s:W.cell? ⟨w.heap.size,1,none⟩=some (.slice (some ⟨a,j,none⟩) m.2.2.2.length m.2.2.1):=by rw [f];go_simp
 have E:Two W (w.heap.size+1) (.int .i64 0) (.slice none 0 0) 161:=by rw [f];have:=Two.new (w.alloc (.cells #[.int .i64 m.1,.slice (some ⟨a,j,none⟩) m.2.2.2.length m.2.2.1] 161)) (.int .i64 0) (.slice none 0 0) 161;simpa using this
 have A:=Za (fun n=>Znj a j m.2.2.1 m.2.2.2 (W.drewN n) ((o.below r t).drewN n) (by show a<W.heap.size;omega) hn)
 have y:=Za E
 have C:=Za t
 rw [l]
 clear hm o l E t
 go_enter Tryz.func127,Tryz.ntmps127
 go_wp2_with fail
 rw [<-f]
 clear f
 refine Zao (S:=fun w'=>w'.cell? ⟨w.heap.size,0,none⟩=some (.int .i64 m.1)/\w'.cell? ⟨w.heap.size,1,none⟩=some (.slice (some ⟨a,j,none⟩) m.2.2.2.length m.2.2.1)) (fuel:=2)
  [0,1,2,3] _ rfl (by kernel_rfl) (by kernel_rfl) (by kernel_rfl) (by kernel_rfl) (by kernel_rfl) (by kernel_rfl) (by kernel_rfl) ⟨x,s⟩ (fun G=>?_)
 iterate 4
  refine⟨_,rfl,?_⟩
  apply Exists.intro
  refine⟨Or.inl ⟨by rfl,fun w' M=>?_⟩,?_⟩
  · first
    | (go_simp;done)
    | (go_simp;with_reducible rfl)
  simp only [Act.put,List.setIfInBounds_toArray]
 refine Zc 4 (by kernel_rfl) rfl (fun K k=>?_)
 go_simp
 refine (A.out 1).mono ?_
 rintro e w' ⟨g,c,rfl,q,L⟩
 have d:w'.cell? ⟨w.heap.size,0,none⟩=some (.int .i64 m.1)/\w'.cell? ⟨w.heap.size,1,none⟩=some (.slice (some ⟨a,j,none⟩) m.2.2.2.length m.2.2.1):=
  ⟨(L.cell (p:=⟨w.heap.size,0,none⟩) (by show w.heap.size<W.heap.size;omega)).trans x,(L.cell (p:=⟨w.heap.size,1,none⟩) (by show w.heap.size<W.heap.size;omega)).trans s⟩
 refine k.out _ _ d (fun _=>?_)
 clear k K
 refine Zc 5 (by kernel_rfl) rfl (fun K k=>?_)
 go_simp
 refine k.out _ _ d (fun _=>?_)
 clear k K
 have B:(W.drewN 1).heap.size=W.heap.size:=rfl
 rw [B] at q L
 have z:Below w.heap.size w (W.drewN 1):=below_drewN C.out 1
 have i:Two w' (w.heap.size+1) (.int .i64 0) (.slice none 0 0) 161:=(L.block _ (by omega)).trans y.out
 have O:=i.frozen 0
 have Q:=i.frozen 1
 have P:=i.c0
 have N:=i.c1
 have u:=(i.set0 (.int .i64 m.1)).set1 (.slice (some ⟨g,0,none⟩) m.2.2.2.length c)
 have J:=u.c0
 have H:=u.c1
 have I:=q.lt
 have D:Hid (ZQ w.heap.size ((w'.setCell ⟨w.heap.size+1,0,none⟩ (.int .i64 m.1)).setCell ⟨w.heap.size+1,1,none⟩ (.slice (some ⟨g,0,none⟩) m.2.2.2.length c)) g c m.2.2.2/\Below w.heap.size w ((w'.setCell ⟨w.heap.size+1,0,none⟩ (.int .i64 m.1)).setCell ⟨w.heap.size+1,1,none⟩ (.slice (some ⟨g,0,none⟩) m.2.2.2.length c))):=
  ⟨((q.kept (ZbI _ (w.heap.size+1) 0 _) (by simp;omega)).kept (ZbI _ (w.heap.size+1) 1 _) (by simp;omega)).mono (by omega),((z.trans (L.mono (by omega))).setCell (by show w.heap.size<=w.heap.size+1;omega) _).setCell (by show w.heap.size<=w.heap.size+1;omega) _⟩
 clear i u q L z A y C x s G d B
 refine wpAnyH_done (by kernel_rfl) ?_ _
 simp only [Exit.then]
 go_wp2_with fail
 refine NoPanic.normal ?_
 go_wp2_with fail
 refine bodyPost_ret (v:=.agg #[.int .i64 m.1,.slice (some ⟨g,0,none⟩) m.2.2.2.length c]) (by simp [results,Tryz.results127,go_sem,J,H]) rfl ?_
 exact⟨g,c,rfl,D.out.1,D.out.2⟩
def ZaX(f:Nat->Value)(m:Nat)(v:Value)(i:Nat):Value:=if i=m then v else f i
def FB(w:World)(g m:Nat)(C:Nat->Value)(t:TypeId):Prop:=w.heap[g]? =some (.cells ((List.range m).map C).toArray t)
theorem FB.lt{w:World}{g m:Nat}{C:Nat->Value}{t:TypeId}(h:FB w g m C t):g<w.heap.size:=by
 rcases Nat.lt_or_ge g w.heap.size with h1 | h1
 · exact h1
 · unfold FB at h;rw [Array.getElem?_eq_none h1] at h;cases h
theorem FB.cell{w:World}{g m:Nat}{C:Nat->Value}{t:TypeId}(h:FB w g m C t){i:Nat}(hi:i<m):w.cell? ⟨g,i,none⟩=some (C i):=by
 unfold FB at h
 simp only [World.cell?,h]
 simp [hi]
theorem FB.frozen{w:World}{g m:Nat}{C:Nat->Value}{t:TypeId}(h:FB w g m C t)(i:Nat):w.frozen? ⟨g,i,none⟩=false:=by
 unfold FB at h
 simp [World.frozen?,h]
theorem Znk(f:Nat->Value)(k m:Nat)(v:Value):((List.range k).map f).set m v=(List.range k).map (ZaX f m v):=by
 apply List.ext_getElem
 · simp
 · intro i a b
   simp only [List.getElem_set,List.getElem_map,List.getElem_range,ZaX]
   by_cases h:m=i
   · rw [if_pos h,if_pos h.symm]
   · rw [if_neg h,if_neg (fun e=>h e.symm)]
theorem FB.set{w:World}{g m:Nat}{C:Nat->Value}{t:TypeId}(h:FB w g m C t)(i:Nat)(v:Value):FB (w.setCell ⟨g,i,none⟩ v) g m (ZaX C i v) t:=by
 unfold FB at *
 simp only [World.setCell,Array.getElem?_modify,h]
 simp [Znk]
theorem FB.same{w w':World}{g m:Nat}{C:Nat->Value}{t:TypeId}(h:FB w g m C t)(e:w'.heap[g]? =w.heap[g]?):FB w' g m C t:=e.trans h
theorem FB.far{w:World}{g m q:Nat}{C:Nat->Value}{t:TypeId}(h:FB w g m C t)(hq:q≠g)(i:Nat)(v:Value):FB (w.setCell ⟨q,i,none⟩ v) g m C t:=h.same (Below.heap_setCell w ⟨q,i,none⟩ v g (fun e=>hq e.symm))
theorem FB.next{w w':World}{g m:Nat}{C:Nat->Value}{t:TypeId}(h:FB w g m C t)(L:Below w.heap.size w w'):FB w' g m C t:=h.same (L.block g h.lt)
theorem FB.congr{w:World}{g m:Nat}{C D:Nat->Value}{t:TypeId}(h:FB w g m C t)(e:∀i,i<m->C i=D i):FB w g m D t:=by
 unfold FB at *
 rw [h]
 congr 2
 congr 1
 exact List.map_congr_left (fun i a=>e i (List.mem_range.1 a))
theorem FB.own{base:Nat}{w:World}{g n size:Nat}{C:Nat->Value}{t:TypeId}(h:FB w g (n*size) C t)(hb:base<=g)(hn:n<=maxLen):w.ownsRow base t size (.slice (some ⟨g,0,none⟩) n n) n ((List.range (n*size)).map C):=
 ⟨by simp,Or.inr ⟨g,n,_,rfl,hb,h,Nat.le_refl _,hn,by simp,List.take_of_length_le (by simp)⟩⟩
theorem FB.madeL(w:World)(n:Nat)(t:TypeId):FB (w.alloc (.cells (madeCells #[.slice none 0 0] (n*1)) t)) w.heap.size n (fun _=>.slice none 0 0) t:=by
 have e:madeCells #[.slice none 0 0] (n*1)=((List.range n).map (fun _=>Value.slice none 0 0)).toArray:=by
  apply Array.ext
  · simp [size_madeCells]
  · intro i a b
    simp [madeCells,Nat.mod_one]
 unfold FB
 rw [e]
 show (w.heap.push _)[w.heap.size]? =_
 simp
def Zgz(j:Nat):Value:=if j % 2=0 then .int .i64 0 else .slice none 0 0
theorem FB.madeM(w:World)(n:Nat)(t:TypeId):FB (w.alloc (.cells (madeCells #[.int .i64 0,.slice none 0 0] (n*2)) t)) w.heap.size (n*2) Zgz t:=by
 have e:madeCells #[.int .i64 0,.slice none 0 0] (n*2)=((List.range (n*2)).map Zgz).toArray:=by
  apply Array.ext
  · simp [size_madeCells]
  · intro i b c
    have a:i % 2=0\/i % 2=1:=Nat.mod_two_eq_zero_or_one i
    rcases a with a | a <;> simp [madeCells,Zgz,a]
 unfold FB
 rw [e]
 show (w.heap.push _)[w.heap.size]? =_
 simp
def ZgM(ms:List Mk)(G cc:Nat->Nat)(k j:Nat):Value:=if j / 2<k then (if j % 2=0 then .int .i64 (mid ms (j / 2)) else .slice (some ⟨G (j / 2),0,none⟩) (mat ms (j / 2)).length (cc (j / 2))) else Zgz j
def dOf(ms:List Mk)(G cc:Nat->Nat)(i:Nat):Dm:=(mid ms i,G i,cc i,mat ms i)
def ZaK(ms:List Mk)(G cc:Nat->Nat):List Dm:=(List.range ms.length).map (dOf ms G cc)
theorem ZbJ{ms:List Mk}{G cc:Nat->Nat}{i:Nat}(hi:i<ms.length):Zu (ZaK ms G cc) i=dOf ms G cc i:=by simp [Zu,ZaK,List.getD,hi]
theorem Za5(ms:List Mk)(G cc:Nat->Nat):(ZaK ms G cc).length=ms.length:=by simp [ZaK]
theorem ZbB(ms:List Mk)(G cc:Nat->Nat):Zs (ZaK ms G cc)=ms:=by
 refine List.ext_getElem (by simp [Zs,ZaK]) (fun i b a=>?_)
 simp [Zs,ZaK,dOf,mid,mat,List.getD,a]
theorem ZjM(ms:List Mk)(G cc:Nat->Nat):ZG (ZaK ms G cc)=(List.range (ms.length*2)).map (ZgM ms G cc ms.length):=by
 refine List.ext_getElem? (fun j=>?_)
 rcases Nat.lt_or_ge j (ms.length*2) with hj | hj
 · have b:j / 2<(ZaK ms G cc).length:=by rw [Za5];omega
   have a:j / 2<ms.length:=by omega
   obtain⟨c0,c1⟩:=Zcz (ZaK ms G cc) (j / 2) b
   rw [ZbJ a] at c0 c1
   rw [List.getElem?_map,List.getElem?_range hj]
   rcases Nat.mod_two_eq_zero_or_one j with hm | hm
   · rw [show j=j / 2*2 by omega,c0]
     simp [ZgM,dOf,a,show j / 2*2 / 2=j / 2 by omega]
   · rw [show j=j / 2*2+1 by omega,c1]
     have c:(j / 2*2+1) / 2=j / 2:=by omega
     have d:(j / 2*2+1) % 2=1:=by omega
     simp [ZgM,dOf,a,c,d]
 · rw [List.getElem?_eq_none (by rw [Zcw,Za5];omega),List.getElem?_eq_none (by simp;omega)]
structure Zaw(base:Nat)(w:World)(g k:Nat)(ms:List Mk)(G cc:Nat->Nat)(lo hi:Nat):Prop where
 blk:FB w g (ms.length*2) (ZgM ms G cc k) 161
 rows:∀i,i<k->ZQ base w (G i) (cc i) (mat ms i)
 rise:∀i j,i<j->j<k->G i<G j
 within:∀i,i<k->lo<=G i/\G i<hi
 top:hi<=w.heap.size
 ge:base<=g
 out:g<lo
theorem Zaw.own{base:Nat}{w:World}{g:Nat}{ms:List Mk}{G cc:Nat->Nat}{lo hi:Nat}(h:Zaw base w g ms.length ms G cc lo hi)(hn:ms.length<=maxLen):ZbT base w g ms.length (ZaK ms G cc):=by
 refine⟨?_,fun i a=>?_,fun i a=>?_,fun i j a b c=>?_⟩
 · rw [ZjM,Za5]
   exact h.blk.own h.ge hn
 · rw [Za5] at a
   rw [ZbJ a]
   exact h.rows i a
 · rw [Za5] at a
   rw [ZbJ a]
   have:=h.within i a
   have:=h.out
   show G i≠g
   omega
 · rw [Za5] at a b
   rw [ZbJ a,ZbJ b]
   show G i≠G j
   rcases Nat.lt_or_ge i j with e | e
   · have:=h.rise i j e b;omega
   · have:=h.rise j i (by omega) a;omega
theorem ZQ.far15{base:Nat}{w:World}{g c q:Nat}{xs:List Int}(h:ZQ base w g c xs)(hq:q≠g)(i:Nat)(v:Value):ZQ base (w.setCell ⟨q,i,none⟩ v) g c xs:=h.kept (ZbI w q i v) (fun e=>by injection e with e;exact hq e.symm)
theorem Zaw.start{base:Nat}{w:World}{g:Nat}{ms:List Mk}(h:FB w g (ms.length*2) Zgz 161)(hb:base<=g):Zaw base w g 0 ms (fun _=>0) (fun _=>0) (w.heap.size) (w.heap.size):=
 ⟨h.congr (fun i _=>by unfold ZgM;rw [if_neg (by omega)]),fun i hi=>by omega,fun i j _ hj=>by omega,fun i hi=>by omega,Nat.le_refl _,hb,h.lt⟩
theorem Zaw.next{base:Nat}{w w':World}{g k:Nat}{ms:List Mk}{G cc:Nat->Nat}{lo hi:Nat}(h:Zaw base w g k ms G cc lo hi)(L:Below w.heap.size w w'):Zaw base w' g k ms G cc lo hi:=
 ⟨h.blk.next L,fun i hi'=>(h.rows i hi').below L,h.rise,h.within,Nat.le_trans h.top L.size,h.ge,h.out⟩
theorem Zaw.far{base:Nat}{w:World}{g k q:Nat}{ms:List Mk}{G cc:Nat->Nat}{lo hi:Nat}(h:Zaw base w g k ms G cc lo hi)(hq:q≠g)(hq2:q<lo\/hi<=q)(i:Nat)(v:Value):Zaw base (w.setCell ⟨q,i,none⟩ v) g k ms G cc lo hi:=
 ⟨h.blk.far hq i v,fun j hj=>(h.rows j hj).far15 (by have:=h.within j hj;omega) i v,h.rise,h.within,by rw [Ze];exact h.top,h.ge,h.out⟩
theorem Zaw.step{base:Nat}{w w':World}{g k h0 c:Nat}{ms:List Mk}{G cc:Nat->Nat}{lo hi:Nat}(h:Zaw base w g k ms G cc lo hi)(L:Below w.heap.size w w')(hr:ZQ w.heap.size w' h0 c (mat ms k))(hb:base<=w.heap.size)(hlo:lo<=w.heap.size):
 Zaw base ((w'.setCell ⟨g,k*2,none⟩ (.int .i64 (mid ms k))).setCell ⟨g,k*2+1,none⟩ (.slice (some ⟨h0,0,none⟩) (mat ms k).length c)) g (k+1) ms (ZeV G k h0) (ZeV cc k c) lo w'.heap.size:=by
 have f:=h.next L
 have n:=h.blk.lt
 have p:=hr.lt
 have d:=h.top
 refine⟨((f.blk.set (k*2) _).set (k*2+1) _).congr (fun j l=>?_),fun i b=>?_,fun i j a l=>?_,fun i b=>?_,by simp [World.setCell],h.ge,h.out⟩
 · unfold ZaX ZgM
   by_cases e1:j=k*2+1
   · rw [if_pos e1,if_pos (by omega),if_neg (by omega)]
     have:j / 2=k:=by omega
     rw [this]
     simp [ZeV]
   · rw [if_neg e1]
     by_cases e2:j=k*2
     · rw [if_pos e2,if_pos (by omega),if_pos (by omega)]
       have:j / 2=k:=by omega
       rw [this]
     · rw [if_neg e2]
       by_cases e3:j / 2<k
       · have:j / 2≠k:=by omega
         have m:j / 2<k+1:=by omega
         simp [ZeV,this,e3,m]
       · rw [if_neg e3,if_neg (by omega)]
 · unfold ZeV
   by_cases e:i=k
   · rw [if_pos e,if_pos e,e]
     exact (((hr.far15 (by omega) _ _).far15 (by omega) _ _).mono hb)
   · rw [if_neg e,if_neg e]
     have q:=h.within i (by omega)
     have o:=h.out
     exact ((f.rows i (by omega)).far15 (by omega) _ _).far15 (by omega) _ _
 · unfold ZeV
   by_cases e:j=k
   · rw [if_pos e,if_neg (by omega)]
     have:=h.within i (by omega)
     omega
   · rw [if_neg (by omega),if_neg e]
     exact h.rise i j a (by omega)
 · unfold ZeV
   by_cases e:i=k
   · rw [if_pos e];omega
   · rw [if_neg e]
     have:=h.within i (by omega)
     have:=L.size
     omega
structure NM(base:Nat)(w:World)(g n:Nat)(V:Nat->Value)(X:Nat->List Int)(lo:Nat):Prop where
 blk:FB w g n V 31
 own:∀i,i<n->w.ownsRow lo 2 1 (V i) (X i).length ((X i).map (Value.int .i64))
 apart:∀i j,i<n->j<n->i≠j->(V i).ownBlock=none\/(V i).ownBlock≠(V j).ownBlock
 ge:base<=g
 out:g<lo
 top:lo<=w.heap.size
theorem ZbC{w w':World}{b:Nat}{v:Value}{n:Nat}{xs:List Value}(h:w.ownsRow b 2 1 v n xs)(e:∀g,v.ownBlock=some g->w'.heap[g]? =w.heap[g]?):w'.ownsRow b 2 1 v n xs:=by
 obtain⟨c,i | ⟨g,cap,a,rfl,d,f,j⟩⟩:=h
 · exact⟨c,Or.inl i⟩
 · exact⟨c,Or.inr ⟨g,cap,a,rfl,d,(e g rfl).trans f,j⟩⟩
theorem Zaq{w:World}{b:Nat}{v:Value}{n:Nat}{xs:List Value}(h:w.ownsRow b 2 1 v n xs){g:Nat}(e:v.ownBlock=some g):b<=g/\g<w.heap.size:=World.ownsRow.lt h g e
theorem Zjv{w:World}{b b':Nat}{v:Value}{n:Nat}{xs:List Value}(h:w.ownsRow b 2 1 v n xs)(hb:b'<=b):w.ownsRow b' 2 1 v n xs:=
 ⟨h.1,h.2.imp id fun ⟨g,cap,cur,h1,h2,h3⟩=>⟨g,cap,cur,h1,Nat.le_trans hb h2,h3⟩⟩
theorem Zcm{w:World}{b:Nat}{v:Value}{xs:List Int}(h:w.ownsRow b 2 1 v xs.length (xs.map (Value.int .i64))):∃a c,v=.slice a xs.length c/\Zy w a xs:=by
 obtain⟨f,⟨rfl,e⟩ | ⟨g,cap,d,rfl,j⟩⟩:=h
 · exact⟨none,0,by rw [e],Or.inl (List.length_eq_zero_iff.1 e)⟩
 · have i:ZQ b w g cap xs:=⟨f,Or.inr ⟨g,cap,d,rfl,j⟩⟩
   exact⟨some ⟨g,0,none⟩,cap,rfl,i.view⟩
theorem NM.next{base:Nat}{w w':World}{g n:Nat}{V:Nat->Value}{X:Nat->List Int}{lo:Nat}(h:NM base w g n V X lo)(L:Below w.heap.size w w'):NM base w' g n V X lo:=
 ⟨h.blk.next L,fun i hi=>ZbC (h.own i hi) (fun q e=>L.block q (Zaq (h.own i hi) e).2),h.apart,h.ge,h.out,Nat.le_trans h.top L.size⟩
theorem NM.view{base:Nat}{w:World}{g n:Nat}{V:Nat->Value}{X:Nat->List Int}{lo:Nat}(h:NM base w g n V X lo):ZS w (some ⟨g,0,none⟩) ((List.range n).map X):=by
 refine Or.inr ⟨g,0,rfl,h.blk.lt,fun i d=>?_⟩
 have b:i<n:=by simpa using d
 obtain⟨a,c,e,f⟩:=Zcm (h.own i b)
 have j:cn ((List.range n).map X) i=X i:=by simp [cn,List.getD,b]
 rw [j,Nat.zero_add]
 exact⟨a,c,(h.blk.cell b).trans (by rw [e]),f⟩
theorem NM.start{base:Nat}{w:World}{g n:Nat}(h:FB w g n (fun _=>.slice none 0 0) 31)(hb:base<=g){lo:Nat}(hlo:g<lo)(ht:lo<=w.heap.size):NM base w g n (fun _=>.slice none 0 0) (fun _=>[]) lo:=
 ⟨h,fun _ _=>⟨rfl,Or.inl ⟨rfl,rfl⟩⟩,fun _ _ _ _ _=>Or.inl rfl,hb,hlo,ht⟩
theorem NM.congr{base:Nat}{w:World}{g n:Nat}{V:Nat->Value}{X Y:Nat->List Int}{lo:Nat}(h:NM base w g n V X lo)(e:∀i,i<n->X i=Y i):NM base w g n V Y lo:=
 ⟨h.blk,fun i hi=>by rw [<-e i hi];exact h.own i hi,h.apart,h.ge,h.out,h.top⟩
theorem NM.far{base:Nat}{w:World}{g n q:Nat}{V:Nat->Value}{X:Nat->List Int}{lo:Nat}(h:NM base w g n V X lo)(hq:q≠g)(hq2:q<lo)(i:Nat)(v:Value):NM base (w.setCell ⟨q,i,none⟩ v) g n V X lo:=
 ⟨h.blk.far hq i v,fun j hj=>ZbC (h.own j hj) (fun b e=>Below.heap_setCell w ⟨q,i,none⟩ v b (fun e'=>by have:=Zaq (h.own j hj) e;have:b=q:=e';omega)),h.apart,h.ge,h.out,by rw [Ze];exact h.top⟩
def Zew(f:Nat->List Int)(m:Nat)(v:List Int)(i:Nat):List Int:=if i=m then v else f i
theorem NM.put{base:Nat}{w w':World}{g n:Nat}{V:Nat->Value}{X:Nat->List Int}{lo:Nat}(h:NM base w g n V X lo){m:Nat}(hm:m<n){v:Value}{xs:List Int}(ho:w'.ownsRow lo 2 1 v xs.length (xs.map (Value.int .i64)))
 (hg:w.grownBy w' (V m).ownBlock) (hat:v.ownBlock=none\/v.ownBlock=(V m).ownBlock\/∃q,v.ownBlock=some q/\w.heap.size<=q):NM base (w'.setCell ⟨g,m,none⟩ v) g n (ZaX V m v) (Zew X m xs) lo:=by
 have o:=h.blk.lt
 have f:=h.out
 have s:∀q,(V m).ownBlock=some q->lo<=q/\q<w.heap.size:=fun q e=>Zaq (h.own m hm) e
 have y:∀i,i≠g->(w'.setCell ⟨g,m,none⟩ v).heap[i]? =w'.heap[i]? :=fun i b=>Below.heap_setCell w' ⟨g,m,none⟩ _ i (fun e=>b e)
 have r:FB w' g n V 31:=h.blk.same (hg.block g o (fun e=>by have:=s g e.symm;omega))
 refine⟨r.set m v,fun i b=>?_,fun i j b u p=>?_,h.ge,f,by rw [Ze];exact Nat.le_trans h.top hg.size⟩
 · unfold ZaX Zew
   by_cases e:i=m
   · rw [if_pos e,if_pos e]
     exact ZbC ho (fun q c=>y q (by have:=Zaq ho c;omega))
   · rw [if_neg e,if_neg e]
     refine ZbC (h.own i b) (fun q c=>?_)
     have x:=Zaq (h.own i b) c
     refine (y q (by omega)).trans (hg.block q x.2 (fun a=>?_))
     rcases h.apart i m b hm e with h1 | h1
     · rw [h1] at c;cases c
     · exact h1 (c.trans a)
 · unfold ZaX
   have d:∀k,k<n->k≠m->(V k).ownBlock=none\/(V k).ownBlock≠v.ownBlock:=fun k t l=>by
    rcases hat with e | e | ⟨q,e,x⟩
    · rcases h.apart k m t hm l with h1 | h1
      · exact Or.inl h1
      · by_cases hn:(V k).ownBlock=none
        · exact Or.inl hn
        · exact Or.inr (fun a=>hn (a.trans e))
    · rcases h.apart k m t hm l with h1 | h1
      · exact Or.inl h1
      · exact Or.inr (fun a=>h1 (a.trans e))
    · refine Or.inr (fun a=>?_)
      have:=Zaq (h.own k t) (a.trans e)
      omega
   by_cases e1:i=m
   · rw [if_pos e1,if_neg (by omega)]
     rcases d j u (by omega) with h1 | h1
     · by_cases hn:v.ownBlock=none
       · exact Or.inl hn
       · exact Or.inr (fun a=>hn (a.trans h1))
     · exact Or.inr (fun a=>h1 a.symm)
   · rw [if_neg e1]
     by_cases e2:j=m
     · rw [if_pos e2];exact d i b e1
     · rw [if_neg e2];exact h.apart i j b u p
end Go.Proofs.YtilkaeclgmcolaaGreat
namespace Go.Proofs.YtilkaeclgmcolaaGreat
open Go
theorem Zly{l:List Int}{x:Int}(h:∀y∈l,y<x):ZaA l x=l++[x]:=by
 induction l with
 | nil=>rfl
 | cons a l ih=>
   have c:=h a (by simp)
   simp only [ZaA]
   rw [if_pos (by omega)] <;> first | (rw [ih (fun y b=>h y (by simp [b]))];rfl) | skip
def lkX(ms:List Mk)(ls:List (List Int))(ids:List Int)(x:Int)(t i:Nat):List Int:=if i<ms.length then Zcx ms ls (ids.take t) x i else ZcZ (ids.take t)
theorem Zk9{ms:List Mk}{ls:List (List Int)}(hl:ls.length=ms.length)(ids:List Int)(x:Int){i:Nat}(hi:i<ms.length+1):cn (ls++[[]]) i=lkX ms ls ids x 0 i:=by
 unfold lkX
 by_cases h:i<ms.length
 · rw [if_pos h]
   simp [Zcx,ZaI,cn,List.getD,List.getElem?_append_left (show i<ls.length by omega)]
 · rw [if_neg h]
   obtain rfl:i=ms.length:=by omega
   simp [ZcZ,cn,List.getD,<-hl]
theorem Zoc(ms:List Mk)(ls:List (List Int))(ids:List Int)(x:Int){i:Nat}(hi:i<ms.length+1):lkX ms ls ids x ids.length i=cn (ZcY ms ls ids x) i:=by
 unfold lkX
 rw [List.take_length]
 by_cases h:i<ms.length
 · rw [if_pos h,Ze9 h]
 · rw [if_neg h,show i=ms.length by omega,ZeB]
theorem Zox{ms:List Mk}{m:Mk}(hm:Zt (ms++[m])=true):∀j,j<ms.length->mid ms j<m.1:=by
 have c:∀k,k<=ms.length->∀j,j<k->mid (ms++[m]) j<mid (ms++[m]) k:=by
  intro k
  induction k with
  | zero=>intro _ j b;omega
  | succ k ih=>
    intro d j b
    have a:=((ZZ _ _).1 (Zam hm (i:=k+1) (by simp;omega))).2.2.2.2
    rcases a with a | a
    · omega
    · rw [show k+1-1=k by omega] at a
      rcases Nat.lt_or_ge j k with e | e
      · have:=ih (by omega) j e;omega
      · rw [show j=k by omega];exact a
 intro j b
 have:=c ms.length (Nat.le_refl _) j b
 rw [Zdf b,Zdg] at this
 exact this
theorem Zla{ms:List Mk}{m:Mk}(hm:Zt (ms++[m])=true){j:Nat}(hj:j<ms.length):0<=ZC (ms++[m]) (mid ms j)/\ZD (ms++[m]) (mid ms j)=j:=by
 have:=ZaF hm (i:=j) (by simp;omega)
 rw [Zdf hj] at this
 exact⟨by omega,this.2⟩
theorem Zlb{ms:List Mk}{m:Mk}(hm:Zt (ms++[m])=true):0<=ZC (ms++[m]) m.1/\ZD (ms++[m]) m.1=ms.length:=by
 have:=ZaF hm (i:=ms.length) (by simp)
 rw [Zdg] at this
 exact⟨by omega,this.2⟩
theorem ZmS{ms:List Mk}{ls:List (List Int)}{m:Mk}(hw:Zax ms ls=true)(hm:Zt (ms++[m])=true){ids:List Int}(hd:ids.Nodup)(hf:∀y∈ids,0<=ZC ms y){t:Nat}(ht:t<ids.length):
 ∃j,j<ms.length/\nth ids t=mid ms j/\lkX ms ls ids m.1 t j=cn ls j/\(cn ls j).Pairwise (fun a b=>a<b)/\m.1 ∉ cn ls j/\(cn ls j).length<=60/\(ZcZ (ids.take t)).Pairwise (fun a b=>a<b)/\nth ids t ∉ ZcZ (ids.take t)/\(ZcZ (ids.take t)).length<=60/\
  ∀i,Zew (Zew (lkX ms ls ids m.1 t) j (ZaA (cn ls j) m.1)) ms.length (ZaA (ZcZ (ids.take t)) (nth ids t)) i=lkX ms ls ids m.1 (t+1) i\/ms.length<i:=by
 have e:nth ids t∈ids:=by simp [nth,List.getD,ht]
 obtain⟨a,b,c⟩:=Zab (hf _ e)
 have f:=ZY hw
 have q:=ZF f
 have g:=Zf4 hd ht
 have k:∀y∈cn ls (ZD ms (nth ids t)),y<m.1:=fun y p=>by
  obtain⟨d,o,r,-⟩:=Zec hw a p
  have:=Zox hm _ o
  rw [r] at this
  exact this
 have n:Zcx ms ls (ids.take t) m.1 (ZD ms (nth ids t))=cn ls (ZD ms (nth ids t)):=by
  unfold Zcx
  rw [if_neg]
  rw [c,Z3]
  exact g
 refine⟨ZD ms (nth ids t),a,c.symm,by unfold lkX;rw [if_pos a,n],ZdQ (Zf0 hw a),fun h=>by have:=k _ h;omega,by have:=ZeS hw a;omega,(ZeA _ [] List.Pairwise.nil).1,by rw [Zf1];exact g,?_,fun i=>?_⟩
 · have d:=Zfw (ids.take t) []
   have o:=Zer hd hf
   unfold ZcZ
   simp at d
   omega
 · rcases Nat.lt_or_ge ms.length i with h | h
   · exact Or.inr h
   · left
     unfold Zew lkX
     by_cases e1:i=ms.length
     · rw [if_pos e1,if_neg (by omega)]
       unfold ZcZ
       rw [List.take_add_one,List.getElem?_eq_getElem ht,List.foldl_append]
       simp [nth,List.getD,ht]
     · have l:i<ms.length:=by omega
       rw [if_neg e1]
       by_cases e2:i=ZD ms (nth ids t)
       · rw [if_pos e2,if_pos l,Zly k,e2]
         unfold Zcx
         rw [if_pos]
         rw [c,Z3,Zee ht]
         exact Or.inr rfl
       · rw [if_neg e2,if_pos l,if_pos l]
         unfold Zcx
         have:ZaI (ids.take (t+1)) (mid ms i)=ZaI (ids.take t) (mid ms i):=by
          rw [Bool.eq_iff_iff,Z3,Z3,Zee ht]
          constructor
          · rintro (d | d)
            · exact d
            · exfalso
              apply e2
              rw [<-d,(ZaF f l).2]
          · exact Or.inl
         rw [this]
end Go.Proofs.YtilkaeclgmcolaaGreat
namespace Go.Proofs.YtilkaeclgmcolaaGreat
open Go Go.RowKit
theorem ZpH(ao:Option Addr)(cap:Nat)(xs:List Int)(x:Int)(w:World)(hv:Zy w ao xs)(hn:xs.length<=4194304):
 Calls Tryz.prog 237 #[.slice ao xs.length cap,.int .i64 x] w fun e w'=>(∃r:Int,e=.returned (.int .i64 r)/\decide (0<=r)=ZaI xs x)/\w'=w:=by
 go_enter Tryz.func237,Tryz.ntmps237
 go_wp2_with fail
 go_loop [8] (fun i=>∃k:Nat,k<=xs.length/\i=.int .i64 k/\∀j,j<k->nth xs j≠x) (fun i=>xs.length-(intOf i).toNat)
 case atStart=>exact⟨0,Nat.zero_le _,rfl,fun j g=>by omega⟩
 case round=>
  obtain⟨k,q,rfl,a⟩:=hrel
  have f:=Za a
  clear a
  by_cases hlt:k<xs.length
  · obtain⟨b,c,rfl,o,m⟩:∃b c,ao=some ⟨b,c,none⟩/\b<w.heap.size/\Seg w b c xs:=by
     rcases hv with h | h
     · subst h;simp at hlt
     · exact h
    have p:=m k hlt
    by_cases he:nth xs k=x
    · have n:=Za (Zd9 hlt he)
      have d:(x ==nth xs k)=true:=by simp [he]
      clear he
      go_wp2_with fail
      go_ret
      exact⟨⟨(k:Int),rfl,by rw [n.out];simp⟩,rfl⟩
    · have d:(x ==nth xs k)=false:=by simp;exact fun e=>he e.symm
      have l:=Za he
      clear he
      go_wp2_with fail
      go_round
      case rel=>exact⟨k+1,by omega,by go_num,fun j g=>by
       rcases Nat.lt_or_ge j k with h | h
       · exact f.out j h
       · rw [show j=k by omega];exact l.out⟩
      case measure=>simp [intOf];omega
  · go_wp2_with fail
    go_ret
    obtain rfl:k=xs.length:=by omega
    exact⟨⟨-1,rfl,by rw [ZdC f.out];rfl⟩,rfl⟩
theorem pHas(ao:Option Addr)(cap:Nat)(xs:List Int)(x:Int)(w:World)(hv:Zy w ao xs)(hn:xs.length<=4194304):
 Calls Tryz.prog 220 #[.slice ao xs.length cap,.int .i64 x] w fun e w'=>e=.returned (.bool (ZaI xs x))/\w'=w:=by
 have a:=Za (ZpH ao cap xs x w hv hn)
 clear hv
 go_enter Tryz.func220,Tryz.ntmps220
 go_wp2_with fail
 refine a.out.mono ?_
 rintro e b ⟨⟨r,rfl,c⟩,d⟩
 subst b
 go_wp2_with fail
 go_ret
 exact⟨Zd (by rw [<-c]),rfl⟩
end Go.Proofs.YtilkaeclgmcolaaGreat
