import Derived.Test.YtaaagmgglolibaaGreatPutZz
import Derived.Test.YtaaagmgglolibaaGreatMathZz
import Derived.Test.YtaaagmgglolibaaGreatAppendZz
import Derived.Test.YtaaagmgglolibaaGreatArgsZz
import Derived.Lib.AppendZerosOnto
import Derived.Test.YtaaagmgglolibaaGreatBMarkZz
import Derived.Test.YtaaagmgglolibaaGreatBCopyZz
import Derived.Test.YtaaagmgglolibaaGreatLastZz
import Derived.Test.YtaaagmgglolibaaGreatMMarkZz
import Derived.Test.YtaaagmgglolibaaGreatFeHelpZz
import Derived.Test.YtaaagmgglolibaaGreatHSpecZz
import Derived.Deep.CutRange
set_option maxRecDepth 100000
set_option maxHeartbeats 4000000
namespace Go.Proofs.YtaaagmgglolibaaGreat
open Go Go.RowKit
def ZkP(w:World)(b off:Nat)(ds:List Sm):Prop:=∀i,i<ds.length->w.cell? ⟨b,off+i*2,none⟩=some (.int .i64 (ZcW ds i).1)/\w.cell? ⟨b,off+i*2+1,none⟩=some (.slice (ZcW ds i).2.1 (ZcW ds i).2.2.2.length (ZcW ds i).2.2.1)
def Zdm(w:World)(ao:Option Addr)(ds:List Sm):Prop:=ds=[]\/∃b off,ao=some ⟨b,off,none⟩/\b<w.heap.size/\ZkP w b off ds
theorem ZkP.below{w w':World}{B b off:Nat}{ds:List Sm}(h:ZkP w b off ds)(hb:b<B)(hw:Below B w w'):ZkP w' b off ds:=fun i hi=>
 ⟨(hw.cell (p:=⟨b,off+i*2,none⟩) hb).trans (h i hi).1,(hw.cell (p:=⟨b,off+i*2+1,none⟩) hb).trans (h i hi).2⟩
theorem Zdm.below{w w':World}{B:Nat}{ao:Option Addr}{ds:List Sm}(h:Zdm w ao ds)(hB:w.heap.size<=B)(hw:Below B w w'):Zdm w' ao ds:=by
 rcases h with h | ⟨b,off,e,hb,hs⟩
 · exact Or.inl h
 · exact Or.inr ⟨b,off,e,Nat.lt_of_lt_of_le hb hw.size,hs.below (Nat.lt_of_lt_of_le hb hB) hw⟩
theorem Zdm.next{w w':World}{ao:Option Addr}{ds:List Sm}(h:Zdm w ao ds)(hw:Below w.heap.size w w'):Zdm w' ao ds:=h.below (Nat.le_refl _) hw
theorem Zh3(ds:List Sm):∀u∈Zaj ds,u.oneCell'=true:=by
 induction ds with
 | nil=>intro u hu;cases hu
 | cons d ds ih=>
   intro u hu
   simp only [Zaj,List.mem_cons] at hu
   rcases hu with rfl | rfl | hu
   · rfl
   · rfl
   · exact ih u hu
theorem ZkP.cells{w:World}{b off:Nat}{ds:List Sm}(h:ZkP w b off ds):∀j u,(Zaj ds)[j]? =some u->w.cell? ((⟨b,off,none⟩:Addr).add j)=some u:=by
 intro j u hu
 have hl:j<(Zaj ds).length:=by
  rcases Nat.lt_or_ge j (Zaj ds).length with h1 | h1
  · exact h1
  · rw [List.getElem?_eq_none h1] at hu;cases hu
 rw [Zc2] at hl
 rw [Go.WideShapes.add_plain]
 have hi:j / 2<ds.length:=by omega
 obtain⟨c0,c1⟩:=ZfG ds (j / 2) hi
 obtain⟨k0,k1⟩:=h (j / 2) hi
 rcases Nat.mod_two_eq_zero_or_one j with hm | hm
 · have e:j=j / 2*2:=by omega
   rw [<-e] at c0 k0
   rw [c0] at hu
   injection hu with hu
   subst hu
   exact k0
 · have e:j=j / 2*2+1:=by omega
   rw [<-e] at c1
   rw [c1] at hu
   injection hu with hu
   subst hu
   rw [show off+j / 2*2+1=off+j by omega] at k1
   exact k1
theorem Zdm.src{w:World}{ao:Option Addr}{ds:List Sm}(h:Zdm w ao ds):ZV w 2 ao ds.length (Zaj ds):=
 ⟨Zc2 ds,Zh3 ds,by
  rcases h with h | ⟨b,off,e,hb,hs⟩
  · subst h;exact Or.inl rfl
  · exact Or.inr ⟨_,e,hs.cells⟩⟩
theorem ZeG.of{base:Nat}{w:World}{g c n:Nat}{ds:List Sm}{xs:List Value}(h:w.ownsRow base 29 2 (.slice (some ⟨g,0,none⟩) n c) n xs)(hn:n=ds.length)(hx:xs=Zaj ds):ZeG base w g c ds:=by
 subst hn hx;exact h
theorem Zi8(n:Nat):(Builtin.zeroCells #[.int .i64 0,.slice none 0 0] n).size=n*2:=by simp [Builtin.zeroCells]
theorem ZoD(n:Nat)(w:World)(h0:0<n)(hn:n<=4194304):
 Calls Tryz.prog 238 #[.slice none 0 0,.int .i64 n] w fun e w'=>∃c,e=.returned (.slice (some ⟨w.heap.size,0,none⟩) 0 c)/\ZeG w.heap.size w' w.heap.size c []/\Below w.heap.size w w':=by
 obtain⟨j0,hj0,hy0,hy1,hy2⟩:=info_parts Tryz.info29
 have hold:(Builtin.firstCells j0.size 0 (.slice none 0 0)).run Tryz.prog w.drew=.ok (([]:List Value).toArray) w.drew:=run_firstCells_none w.drew j0.size 0 0 0
 have hrz:=fun ty=>Lib.run_append_grow_zeros (P:=Tryz.prog) w 44 3 ty 29 j0 _ .i64 .i64 Tryz.underlying44 Tryz.underlying3 hj0 hy0 none 0 0 [] hold n h0 (by omega) (by omega) (by omega) (by rw [hy2];omega) (growslice_fits (by omega) (by rw [hy2];omega))
 rw [Nat.zero_add] at hrz
 have hG1:=grownCap_ge w n 0 29
 have hG2:=grownCap_le_maxLen w n 0 29 (by unfold maxLen;omega)
 obtain⟨G,hG⟩:∃G,G=grownCap w n 0 29:=⟨_,rfl⟩
 rw [<-hG] at hrz hG1 hG2
 have hx:wrap64 ((n:Int)-(0-0))=(n:Int):=by unfold wrap64;omega
 have HW:Hid (ZeG w.heap.size (w.alloc (.cells (Builtin.zeroCells #[.int .i64 0,.slice none 0 0] n++Builtin.zeroCells #[.int .i64 0,.slice none 0 0] (G-n)) 29)).drew w.heap.size G []/\Below w.heap.size w (w.alloc (.cells (Builtin.zeroCells #[.int .i64 0,.slice none 0 0] n++Builtin.zeroCells #[.int .i64 0,.slice none 0 0] (G-n)) 29)).drew):=by
  refine⟨World.ownsRow_made (base:=w.heap.size) (e:=29) (size:=2) w _ G (Nat.le_refl _) hG2 ?_,((Below.refl w.heap.size w).alloc (Nat.le_refl _) _).drew⟩
  simp only [Array.size_append,Zi8]
  omega
 clear hG hold
 go_enter Tryz.func238,Tryz.ntmps238
 go_wp2_with (at_builtin;refine Lib.wpList_append_run _ rfl _ _ _ _ rfl _ _ rfl rfl _ _ (hrz _) ?_)
 go_ret
 exact⟨G,rfl,HW.out.1,HW.out.2⟩
abbrev RwC:=Option Addr×Nat×List Sm
def Zbj(L:List RwC):List Sm:=L.flatMap (·.2.2)
theorem Zet{L:List RwC}{k:Nat}(h:k<L.length):Zbj (L.take (k+1))=Zbj (L.take k)++L[k].2.2:=by
 unfold Zbj
 rw [List.take_add_one,List.getElem?_eq_getElem h,List.flatMap_append]
 congr 1
 simp
theorem Zh4{L:List RwC}{k:Nat}:(Zbj (L.take k)).length<=(Zbj L).length:=by
 have e:Zbj L=Zbj (L.take k)++Zbj (L.drop k):=by
  unfold Zbj
  rw [<-List.flatMap_append,List.take_append_drop]
 rw [e];simp
theorem ZnL{y:Int}(h0:0<=y)(h1:y<=4194304):wrap64 y=y:=by unfold wrap64;omega
theorem ZlY(A cap:Nat)(L:List RwC)(w:World)(hA:A<w.heap.size)(hc:∀i (h:i<L.length),w.cell? ⟨A,i,none⟩=some (.slice L[i].1 L[i].2.2.length L[i].2.1))(hv:∀i (h:i<L.length),Zdm w L[i].1 L[i].2.2)(hL:L.length<=60)(h60:(Zbj L).length<=2097152)(hpos:0<(Zbj L).length):
 Calls Tryz.prog 185 #[.slice (some ⟨A,0,none⟩) L.length cap] w fun e w'=>∃g c,e=.returned (.slice (some ⟨g,0,none⟩) (Zbj L).length c)/\ZeG w.heap.size w' g c (Zbj L)/\Below w.heap.size w w':=by
 obtain⟨j0,hj0,hy0,hy1,hy2⟩:=info_parts Tryz.info29
 have HC:=Za (And.intro hc hv)
 clear hc hv
 go_enter Tryz.func185,Tryz.ntmps185
 go_wp2
 go_loop [3,11] (fun s i=>∃k:Nat,k<=L.length/\i=.int .i64 k/\s=.int .i64 ((Zbj (L.take k)).length:Nat)) (fun _ i=>L.length-(intOf i).toNat)
 case atStart=>exact⟨0,by omega,rfl,rfl⟩
 case round=>
  obtain⟨k,hk,rfl,rfl⟩:=hrel
  by_cases hlt:k<L.length
  · have hck:=HC.out.1 k hlt
    have hadd:(Zbj (L.take (k+1))).length=(Zbj (L.take k)).length+L[k].2.2.length:=by rw [Zet hlt,List.length_append]
    have hle:=Zh4 (L:=L) (k:=k+1)
    have hi0:(0:Int)<=(k:Int):=Int.natCast_nonneg _
    have hi1:(k:Int)<(L.length:Int):=by omega
    have HAD:=Za hadd
    have hNx:(Zbj (L.take k)).length+L[k].2.2.length<=2097152:=by omega
    clear hle hadd
    generalize (Zbj (L.take k)).length=N at *
    generalize L[k]=x at *
    have x1:wrap64 ((N:Int)+(x.2.2.length:Int))=(N:Int)+(x.2.2.length:Int):=ZnL (by omega) (by omega)
    have d0:¬((N:Int)+(x.2.2.length:Int)<0):=by omega
    go_wp2
    go_round
    case rel=>exact⟨k+1,by omega,by go_num,by rw [HAD.out];go_num⟩
    case measure=>simp [intOf];omega
  · obtain rfl:k=L.length:=by omega
    have e1:L.take L.length=L:=List.take_length
    rw [e1]
    clear e1
    have HG:=Za (ZoD (Zbj L).length w hpos (by omega))
    go_wp2_with fail
    refine HG.out.mono ?_
    rintro e w1 ⟨c1,rfl,hr1,L1⟩
    have HR1:=Za (And.intro hr1 L1)
    clear hr1 L1 HG
    go_wp2
    go_loopw [6,27] (fun v i wr=>∃(k g c:Nat),k<=L.length/\i=.int .i64 k/\v=.slice (some ⟨g,0,none⟩) (Zbj (L.take k)).length c/\ZeG w.heap.size wr g c (Zbj (L.take k))/\Below w.heap.size w wr) (fun _ i _=>L.length-(intOf i).toNat)
    case atStart=>exact⟨0,w.heap.size,c1,by omega,rfl,rfl,HR1.out.1,HR1.out.2⟩
    case round=>
     clear HR1
     obtain⟨k,g,c,hk,rfl,rfl,hr,LL⟩:=hrel
     by_cases hlt:k<L.length
     · have hz:=LL.size
       have HB:=Za LL
       have hck:=(LL.cell (p:=⟨A,k,none⟩) hA).trans (HC.out.1 k hlt)
       have HS:=Za ((HC.out.2 k hlt).next LL).src
       have hgl:=hr.lt
       have hle:=Zh4 (L:=L) (k:=k+1)
       have HCT:=Za (Zet hlt)
       have HR:=Za hr
       have hadd:(Zbj (L.take (k+1))).length=(Zbj (L.take k)).length+L[k].2.2.length:=by rw [Zet hlt,List.length_append]
       have hi0:(0:Int)<=(k:Int):=Int.natCast_nonneg _
       have hi1:(k:Int)<(L.length:Int):=by omega
       clear hr LL
       have hMx:(Zbj (L.take k)).length+L[k].2.2.length<=2097152:=by omega
       have HAD:=Za hadd
       clear hle hadd
       generalize Zbj (L.take k)=M at *
       generalize L[k]=x at *
       go_wp2_with (at_builtin;refine Zx _ rfl (.tmp 31) (.tmp 32) 44 rfl w.heap.size 29 j0 _ 2 32 Tryz.underlying44 hj0 hy0 hy1 hy2 rfl (by omega) g M.length c (Zaj M) rfl HR.out x.1 x.2.2.length x.2.1 (Zaj x.2.2) rfl HS.out (by unfold maxLen;omega) (by omega) hz wr.heap.size rfl ?_;intro gg cc w4 hown hgrow hat hltt)
       go_wp2
       have hr4:ZeG w.heap.size w4 gg cc (Zbj (L.take (k+1))):=by rw [HCT.out];exact ZeG.of hown (by simp) (ZfF M x.2.2).symm
       go_roundw
       case rel=>exact⟨k+1,gg,cc,by omega,by go_num,by rw [HAD.out],hr4,HB.out.grown hgrow hz (by intro k hk;cases hk;omega)⟩
       case measure=>simp [intOf];omega
     · obtain rfl:k=L.length:=by omega
       have e1:L.take L.length=L:=List.take_length
       rw [e1] at hr
       rw [e1]
       have HE:=Za (And.intro hr LL)
       clear hr LL e1
       go_wp2
       go_ret
       exact⟨g,c,rfl,HE.out.1,HE.out.2⟩
def VR(base:Nat)(w:World)(g c:Nat)(vs:List Value):Prop:=w.ownsRow base 27 1 (.slice (some ⟨g,0,none⟩) vs.length c) vs.length vs
theorem VR.lt{base:Nat}{w:World}{g c:Nat}{vs:List Value}(h:VR base w g c vs):base<=g/\g<w.heap.size:=World.ownsRow.lt h g rfl
theorem VR.of15{base:Nat}{w:World}{g c n:Nat}{vs xs:List Value}(h:w.ownsRow base 27 1 (.slice (some ⟨g,0,none⟩) n c) n xs)(hn:n=vs.length)(hx:xs=vs):VR base w g c vs:=by
 subst hn hx;exact h
theorem Tryz.info27:(Tryz.prog.info? 27).map (fun i=>(i.zero,i.size,i.bytes))=some (some (.slice none 0 0),1,24):=by kernel_rfl
theorem Zi9(n:Nat):(Builtin.zeroCells #[.slice none 0 0] n).size=n*1:=by simp [Builtin.zeroCells]
theorem Zgb{w w':World}{ao:Option Addr}{vs:List Value}(h:ZV w 1 ao vs.length vs)(hb:∀a,ao=some a->vs≠[]->a.block<w.heap.size)(L:Below w.heap.size w w'):ZV w' 1 ao vs.length vs:=by
 obtain⟨h1,h2,h3⟩:=h
 refine⟨h1,h2,?_⟩
 rcases h3 with h3 | ⟨a,e,h3⟩
 · exact Or.inl h3
 · refine Or.inr ⟨a,e,fun j u hu=>?_⟩
   have hbb:=hb a e (fun e'=>by rw [e'] at hu;simp at hu)
   rw [<-h3 j u hu]
   refine World.cell?_of_block ?_
   have:((a.add j).block)=a.block:=by unfold Addr.add;split <;> rfl
   rw [this]
   exact L.block _ hbb
abbrev RwL:=Option Addr×Nat×List Value
def Zbk(L:List RwL):List Value:=L.flatMap (·.2.2)
theorem Zeu{L:List RwL}{k:Nat}(h:k<L.length):Zbk (L.take (k+1))=Zbk (L.take k)++L[k].2.2:=by
 unfold Zbk
 rw [List.take_add_one,List.getElem?_eq_getElem h,List.flatMap_append]
 congr 1
 simp
theorem Zh5{L:List RwL}{k:Nat}:(Zbk (L.take k)).length<=(Zbk L).length:=by
 have e:Zbk L=Zbk (L.take k)++Zbk (L.drop k):=by
  unfold Zbk
  rw [<-List.flatMap_append,List.take_append_drop]
 rw [e];simp
theorem ZoE(n:Nat)(w:World)(h0:0<n)(hn:n<=4194304):
 Calls Tryz.prog 239 #[.slice none 0 0,.int .i64 n] w fun e w'=>∃c,e=.returned (.slice (some ⟨w.heap.size,0,none⟩) 0 c)/\VR w.heap.size w' w.heap.size c []/\Below w.heap.size w w':=by
 obtain⟨j0,hj0,hy0,hy1,hy2⟩:=info_parts Tryz.info27
 have hold:(Builtin.firstCells j0.size 0 (.slice none 0 0)).run Tryz.prog w.drew=.ok (([]:List Value).toArray) w.drew:=run_firstCells_none w.drew j0.size 0 0 0
 have hrz:=fun ty=>Lib.run_append_grow_zeros (P:=Tryz.prog) w 45 3 ty 27 j0 _ .i64 .i64 Tryz.underlying45 Tryz.underlying3 hj0 hy0 none 0 0 [] hold n h0 (by omega) (by omega) (by omega) (by rw [hy2];omega) (growslice_fits (by omega) (by rw [hy2];omega))
 rw [Nat.zero_add] at hrz
 have hG1:=grownCap_ge w n 0 27
 have hG2:=grownCap_le_maxLen w n 0 27 (by unfold maxLen;omega)
 obtain⟨G,hG⟩:∃G,G=grownCap w n 0 27:=⟨_,rfl⟩
 rw [<-hG] at hrz hG1 hG2
 have hx:wrap64 ((n:Int)-(0-0))=(n:Int):=by unfold wrap64;omega
 have HW:Hid (VR w.heap.size (w.alloc (.cells (Builtin.zeroCells #[.slice none 0 0] n++Builtin.zeroCells #[.slice none 0 0] (G-n)) 27)).drew w.heap.size G []/\Below w.heap.size w (w.alloc (.cells (Builtin.zeroCells #[.slice none 0 0] n++Builtin.zeroCells #[.slice none 0 0] (G-n)) 27)).drew):=by
  refine⟨World.ownsRow_made (base:=w.heap.size) (e:=27) (size:=1) w _ G (Nat.le_refl _) hG2 ?_,((Below.refl w.heap.size w).alloc (Nat.le_refl _) _).drew⟩
  simp only [Array.size_append,Zi9]
  omega
 clear hG hold
 go_enter Tryz.func239,Tryz.ntmps239
 go_wp2_with (at_builtin;refine Lib.wpList_append_run _ rfl _ _ _ _ rfl _ _ rfl rfl _ _ (hrz _) ?_)
 go_ret
 exact⟨G,rfl,HW.out.1,HW.out.2⟩
theorem ZlZ(A cap:Nat)(L:List RwL)(w:World)(hA:A<w.heap.size)(hc:∀i (h:i<L.length),w.cell? ⟨A,i,none⟩=some (.slice L[i].1 L[i].2.2.length L[i].2.1))(hv:∀i (h:i<L.length),ZV w 1 L[i].1 L[i].2.2.length L[i].2.2/\∀a,L[i].1=some a->L[i].2.2≠[]->a.block<w.heap.size)(hL:L.length<=60)(h60:(Zbk L).length<=2097152)(hpos:0<(Zbk L).length):
 Calls Tryz.prog 186 #[.slice (some ⟨A,0,none⟩) L.length cap] w fun e w'=>∃g c,e=.returned (.slice (some ⟨g,0,none⟩) (Zbk L).length c)/\VR w.heap.size w' g c (Zbk L)/\Below w.heap.size w w':=by
 obtain⟨j0,hj0,hy0,hy1,hy2⟩:=info_parts Tryz.info27
 have HC:=Za (And.intro hc hv)
 clear hc hv
 go_enter Tryz.func186,Tryz.ntmps186
 go_wp2
 go_loop [3,11] (fun s i=>∃k:Nat,k<=L.length/\i=.int .i64 k/\s=.int .i64 ((Zbk (L.take k)).length:Nat)) (fun _ i=>L.length-(intOf i).toNat)
 case atStart=>exact⟨0,by omega,rfl,rfl⟩
 case round=>
  obtain⟨k,hk,rfl,rfl⟩:=hrel
  by_cases hlt:k<L.length
  · have hck:=HC.out.1 k hlt
    have hadd:(Zbk (L.take (k+1))).length=(Zbk (L.take k)).length+L[k].2.2.length:=by rw [Zeu hlt,List.length_append]
    have hle:=Zh5 (L:=L) (k:=k+1)
    have hi0:(0:Int)<=(k:Int):=Int.natCast_nonneg _
    have hi1:(k:Int)<(L.length:Int):=by omega
    have HAD:=Za hadd
    have hNx:(Zbk (L.take k)).length+L[k].2.2.length<=2097152:=by omega
    clear hle hadd
    generalize (Zbk (L.take k)).length=N at *
    generalize L[k]=x at *
    have x1:wrap64 ((N:Int)+(x.2.2.length:Int))=(N:Int)+(x.2.2.length:Int):=ZnL (by omega) (by omega)
    have d0:¬((N:Int)+(x.2.2.length:Int)<0):=by omega
    go_wp2
    go_round
    case rel=>exact⟨k+1,by omega,by go_num,by rw [HAD.out];go_num⟩
    case measure=>simp [intOf];omega
  · obtain rfl:k=L.length:=by omega
    have e1:L.take L.length=L:=List.take_length
    rw [e1]
    clear e1
    have HG:=Za (ZoE (Zbk L).length w hpos (by omega))
    go_wp2_with fail
    refine HG.out.mono ?_
    rintro e w1 ⟨c1,rfl,hr1,L1⟩
    have HR1:=Za (And.intro hr1 L1)
    clear hr1 L1 HG
    go_wp2
    go_loopw [6,27] (fun v i wr=>∃(k g c:Nat),k<=L.length/\i=.int .i64 k/\v=.slice (some ⟨g,0,none⟩) (Zbk (L.take k)).length c/\VR w.heap.size wr g c (Zbk (L.take k))/\Below w.heap.size w wr) (fun _ i _=>L.length-(intOf i).toNat)
    case atStart=>exact⟨0,w.heap.size,c1,by omega,rfl,rfl,HR1.out.1,HR1.out.2⟩
    case round=>
     clear HR1
     obtain⟨k,g,c,hk,rfl,rfl,hr,LL⟩:=hrel
     by_cases hlt:k<L.length
     · have hz:=LL.size
       have HB:=Za LL
       have hck:=(LL.cell (p:=⟨A,k,none⟩) hA).trans (HC.out.1 k hlt)
       have HS:=Za (Zgb (HC.out.2 k hlt).1 (HC.out.2 k hlt).2 LL)
       have hgl:=hr.lt
       have hle:=Zh5 (L:=L) (k:=k+1)
       have HCT:=Za (Zeu hlt)
       have HR:=Za hr
       have hadd:(Zbk (L.take (k+1))).length=(Zbk (L.take k)).length+L[k].2.2.length:=by rw [Zeu hlt,List.length_append]
       have hi0:(0:Int)<=(k:Int):=Int.natCast_nonneg _
       have hi1:(k:Int)<(L.length:Int):=by omega
       clear hr LL
       have hMx:(Zbk (L.take k)).length+L[k].2.2.length<=2097152:=by omega
       have HAD:=Za hadd
       clear hle hadd
       generalize Zbk (L.take k)=M at *
       generalize L[k]=x at *
       go_wp2_with (at_builtin;refine Zx _ rfl (.tmp 31) (.tmp 32) 45 rfl w.heap.size 27 j0 _ 1 24 Tryz.underlying45 hj0 hy0 hy1 hy2 rfl (by omega) g M.length c M rfl HR.out x.1 x.2.2.length x.2.1 x.2.2 rfl HS.out (by unfold maxLen;omega) (by omega) hz wr.heap.size rfl ?_;intro gg cc w4 hown hgrow hat hltt)
       go_wp2
       have hr4:VR w.heap.size w4 gg cc (Zbk (L.take (k+1))):=by rw [HCT.out];exact VR.of15 hown (by simp) rfl
       go_roundw
       case rel=>exact⟨k+1,gg,cc,by omega,by go_num,by rw [HAD.out],hr4,HB.out.grown hgrow hz (by intro k hk;cases hk;omega)⟩
       case measure=>simp [intOf];omega
     · obtain rfl:k=L.length:=by omega
       have e1:L.take L.length=L:=List.take_length
       rw [e1] at hr
       rw [e1]
       have HE:=Za (And.intro hr LL)
       clear hr LL e1
       go_wp2
       go_ret
       exact⟨g,c,rfl,HE.out.1,HE.out.2⟩
theorem Zja{w:World}{ao:Option Addr}{xs:List Int}(h:Zs w ao xs):ZV w 1 ao xs.length (xs.map (Value.int .i64)):=
 ⟨by simp,fun u hu=>by obtain⟨x,_,rfl⟩:=List.mem_map.1 hu;rfl,by
  rcases h with rfl | ⟨b,off,rfl,hb,hs⟩
  · exact Or.inl rfl
  · refine Or.inr ⟨_,rfl,fun j u hu=>?_⟩
    rw [Go.WideShapes.add_plain]
    have hj:j<xs.length:=by
     rcases Nat.lt_or_ge j xs.length with h1 | h1
     · exact h1
     · rw [List.getElem?_eq_none (by simpa using h1)] at hu;cases hu
    have e:(xs.map (Value.int .i64))[j]? =some (.int .i64 (nth xs j)):=by simp [nth,List.getD,hj]
    rw [e] at hu
    injection hu with hu
    rw [<-hu]
    exact hs j hj⟩
theorem ZkQ(cap:Nat)(w:World):
 Calls Tryz.prog 211 #[.slice none 0 cap] w fun e w'=>e=.returned (.slice none 0 0)/\w'=w:=by
 have q49:(binOp .eql 27 (.slice none 0 cap) (.slice none 0 0)).run Tryz.prog w=.ok (.bool true) w:=Lib.run_eql_slice_nil w 27 2 _ _ _ _ _ Tryz.underlying27
 go_enter Tryz.func211,Tryz.ntmps211
 go_wp2_with fail
 go_ret
 exact⟨rfl,rfl⟩
theorem ZfI(p:Addr)(cap:Nat)(xs:List Int)(w:World)(hv:Zs w (some p) xs)(hn:xs.length<=1048576):
 Calls Tryz.prog 211 #[.slice (some p) xs.length cap] w fun e w'=>∃g c,e=.returned (.slice (some ⟨g,0,none⟩) xs.length c)/\ZF w.heap.size w' g c xs/\Below w.heap.size w w':=by
 obtain⟨j0,hj0,hy0,hy1,hy2⟩:=info_parts Tryz.info2
 have hA:Below w.heap.size w (w.alloc (.cells #[] 2)):=(Below.refl _ _).alloc (Nat.le_refl _) _
 have HR:=Za (ZF.start w w.heap.size (Nat.le_refl _))
 have HS:=Za (Zja (hv.next hA))
 have HA:=Za hA
 have q49:(binOp .eql 27 (.slice (some p) xs.length cap) (.slice none 0 0)).run Tryz.prog w=.ok (.bool false) w:=Lib.run_eql_slice_nil w 27 2 _ _ _ _ _ Tryz.underlying27
 clear hA hv
 go_enter Tryz.func211,Tryz.ntmps211
 go_wp2_with (at_builtin;refine Zx _ rfl (.tmp 5) (.tmp 6) 27 rfl w.heap.size 2 j0 _ 1 8 Tryz.underlying27 hj0 hy0 hy1 hy2 rfl (by omega) w.heap.size 0 0 [] rfl HR.out (some p) xs.length cap (xs.map (Value.int .i64)) rfl HS.out (by unfold maxLen;omega) (by omega) (by simp) (w.heap.size+1) (by simp) ?_;intro gg cc w4 hown hgrow hat hltt)
 go_ret
 exact⟨gg,cc,rfl,ZF.of hown (by omega) (by simp),HA.out.grown hgrow (by simp) (by intro k hk;cases hk;omega)⟩
theorem Zmq(b off cap:Nat)(xs:List Int)(w:World)(hs:Seg w b off xs)(hb:b<w.heap.size)(hn:xs.length<=1048576):
 Calls Tryz.prog 211 #[.slice (some ⟨b,off,none⟩) xs.length cap] w fun e w'=>∃g c,e=.returned (.slice (some ⟨g,0,none⟩) xs.length c)/\ZF w.heap.size w' g c xs/\Below w.heap.size w w':=
 ZfI ⟨b,off,none⟩ cap xs w (Or.inr ⟨b,off,rfl,hb,hs⟩) hn
theorem Zm7(ao:Option Addr)(cap:Nat)(xs:List Int)(w:World)(hv:Zs w ao xs)(hn:xs.length<=1048576):
 Calls Tryz.prog 211 #[.slice ao xs.length cap] w fun e w'=>∃v,e=.returned v/\w'.ownsRow w.heap.size 2 1 v xs.length (xs.map (Value.int .i64))/\Below w.heap.size w w':=by
 cases ao with
 | none=>
   obtain rfl:xs=[]:=by
    rcases hv with h | ⟨b,off,e,-⟩
    · exact h
    · cases e
   refine (ZkQ cap w).mono ?_
   rintro e w' ⟨rfl,rfl⟩
   exact⟨_,rfl,⟨rfl,Or.inl ⟨rfl,rfl⟩⟩,Below.refl _ _⟩
 | some p=>
   refine (ZfI p cap xs w hv hn).mono ?_
   rintro e w' ⟨g,c,rfl,hr,L⟩
   exact⟨_,rfl,hr,L⟩
theorem ZiJ(m:Sm)(w:World)(hm:Zs w m.2.1 m.2.2.2)(h0:0<m.2.2.2.length)(hn:m.2.2.2.length<=1048576):
 Calls Tryz.prog 130 #[.agg #[.int .i64 m.1,.slice m.2.1 m.2.2.2.length m.2.2.1]] w fun e w'=>∃h c,e=.returned (.agg #[.int .i64 m.1,.slice (some ⟨h,0,none⟩) m.2.2.2.length c])/\ZF w.heap.size w' h c m.2.2.2/\Below w.heap.size w w':=by
 obtain⟨bm,om,hmo,hbm,hms⟩:∃b off,m.2.1=some ⟨b,off,none⟩/\b<w.heap.size/\Seg w b off m.2.2.2:=by
  rcases hm with h | h
  · rw [h] at h0;simp at h0
  · exact h
 obtain⟨W,hW⟩:∃W,W=(w.alloc (.cells #[.int .i64 m.1,.slice (some ⟨bm,om,none⟩) m.2.2.2.length m.2.2.1] 29)).alloc (.cells #[.int .i64 0,.slice none 0 0] 29):=⟨_,rfl⟩
 have hL:Below w.heap.size w W:=by rw [hW];exact ((Below.refl _ _).alloc (Nat.le_refl _) _).alloc (by simp) _
 have hsz:W.heap.size=w.heap.size+2:=by rw [hW];simp
 have a0:W.cell? ⟨w.heap.size,0,none⟩=some (.int .i64 m.1):=by rw [hW];go_simp
 have a1:W.cell? ⟨w.heap.size,1,none⟩=some (.slice (some ⟨bm,om,none⟩) m.2.2.2.length m.2.2.1):=by rw [hW];go_simp
 have t0:Two W (w.heap.size+1) (.int .i64 0) (.slice none 0 0) 29:=by rw [hW];have:=Two.new (w.alloc (.cells #[.int .i64 m.1,.slice (some ⟨bm,om,none⟩) m.2.2.2.length m.2.2.1] 29)) (.int .i64 0) (.slice none 0 0) 29;simpa using this
 have HC:=Za (fun n=>Zmq bm om m.2.2.1 m.2.2.2 (W.drewN n) ((hms.below hbm hL).drewN n) (by show bm<W.heap.size;omega) hn)
 have HT:=Za t0
 have HL:=Za hL
 rw [hmo]
 clear hm hms hmo t0 hL
 go_enter Tryz.func130,Tryz.ntmps130
 go_wp2_with fail
 rw [<-hW]
 clear hW
 refine ZR (S:=fun w'=>w'.cell? ⟨w.heap.size,0,none⟩=some (.int .i64 m.1)/\w'.cell? ⟨w.heap.size,1,none⟩=some (.slice (some ⟨bm,om,none⟩) m.2.2.2.length m.2.2.1)) (fuel:=2)
  [0,1,2,3] _ rfl (by kernel_rfl) (by kernel_rfl) (by kernel_rfl) (by kernel_rfl) (by kernel_rfl) (by kernel_rfl) (by kernel_rfl) ⟨a0,a1⟩ (fun hS=>?_)
 iterate 4
  refine⟨_,rfl,?_⟩
  apply Exists.intro
  refine⟨Or.inl ⟨by rfl,fun w' hw'=>?_⟩,?_⟩
  · first
    | (go_simp;done)
    | (go_simp;with_reducible rfl)
  simp only [Act.put,List.setIfInBounds_toArray]
 refine Zc 4 (by kernel_rfl) rfl (fun K hK=>?_)
 go_simp
 refine (HC.out 1).mono ?_
 rintro e w' ⟨g,c,rfl,hi,L⟩
 have hS2:w'.cell? ⟨w.heap.size,0,none⟩=some (.int .i64 m.1)/\w'.cell? ⟨w.heap.size,1,none⟩=some (.slice (some ⟨bm,om,none⟩) m.2.2.2.length m.2.2.1):=
  ⟨(L.cell (p:=⟨w.heap.size,0,none⟩) (by show w.heap.size<W.heap.size;omega)).trans a0,(L.cell (p:=⟨w.heap.size,1,none⟩) (by show w.heap.size<W.heap.size;omega)).trans a1⟩
 refine hK.out _ _ hS2 (fun _=>?_)
 clear hK K
 refine Zc 5 (by kernel_rfl) rfl (fun K hK=>?_)
 go_simp
 refine hK.out _ _ hS2 (fun _=>?_)
 clear hK K
 have hz:(W.drewN 1).heap.size=W.heap.size:=rfl
 rw [hz] at hi L
 have hB:Below w.heap.size w (W.drewN 1):=below_drewN HL.out 1
 have t2:Two w' (w.heap.size+1) (.int .i64 0) (.slice none 0 0) 29:=(L.block _ (by omega)).trans HT.out
 have f0:=t2.frozen 0
 have f1:=t2.frozen 1
 have e0:=t2.c0
 have e1:=t2.c1
 have t3:=(t2.set0 (.int .i64 m.1)).set1 (.slice (some ⟨g,0,none⟩) m.2.2.2.length c)
 have k0:=t3.c0
 have k1:=t3.c1
 have hgl:=hi.lt
 have HE:Hid (ZF w.heap.size ((w'.setCell ⟨w.heap.size+1,0,none⟩ (.int .i64 m.1)).setCell ⟨w.heap.size+1,1,none⟩ (.slice (some ⟨g,0,none⟩) m.2.2.2.length c)) g c m.2.2.2/\Below w.heap.size w ((w'.setCell ⟨w.heap.size+1,0,none⟩ (.int .i64 m.1)).setCell ⟨w.heap.size+1,1,none⟩ (.slice (some ⟨g,0,none⟩) m.2.2.2.length c))):=
  ⟨((hi.kept (ZaT _ (w.heap.size+1) 0 _) (by simp;omega)).kept (ZaT _ (w.heap.size+1) 1 _) (by simp;omega)).mono (by omega),((hB.trans (L.mono (by omega))).setCell (by show w.heap.size<=w.heap.size+1;omega) _).setCell (by show w.heap.size<=w.heap.size+1;omega) _⟩
 clear t2 t3 hi L hB HC HT HL a0 a1 hS hS2 hz
 refine wpAnyH_done (by kernel_rfl) ?_ _
 simp only [Exit.then]
 go_wp2_with fail
 refine NoPanic.normal ?_
 go_wp2_with fail
 refine bodyPost_ret (v:=.agg #[.int .i64 m.1,.slice (some ⟨g,0,none⟩) m.2.2.2.length c]) (by simp [results,Tryz.results130,go_sem,k0,k1]) rfl ?_
 exact⟨g,c,rfl,HE.out.1,HE.out.2⟩
def ZaX(f:Nat->Value)(m:Nat)(v:Value)(i:Nat):Value:=if i=m then v else f i
def FB(w:World)(g m:Nat)(C:Nat->Value)(t:TypeId):Prop:=w.heap[g]? =some (.cells ((List.range m).map C).toArray t)
theorem FB.lt{w:World}{g m:Nat}{C:Nat->Value}{t:TypeId}(h:FB w g m C t):g<w.heap.size:=by
 rcases Nat.lt_or_ge g w.heap.size with h1 | h1
 · exact h1
 · unfold FB at h;rw [Array.getElem?_eq_none h1] at h;cases h
theorem FB.cell{w:World}{g m:Nat}{C:Nat->Value}{t:TypeId}(h:FB w g m C t){i:Nat}(hi:i<m):w.cell? ⟨g,i,none⟩=some (C i):=by
 unfold FB at h
 simp only [World.cell?,h]
 simp [hi]
theorem FB.frozen{w:World}{g m:Nat}{C:Nat->Value}{t:TypeId}(h:FB w g m C t)(i:Nat):w.frozen? ⟨g,i,none⟩=false:=by
 unfold FB at h
 simp [World.frozen?,h]
theorem Zmr(f:Nat->Value)(k m:Nat)(v:Value):((List.range k).map f).set m v=(List.range k).map (ZaX f m v):=by
 apply List.ext_getElem
 · simp
 · intro i h1 h2
   simp only [List.getElem_set,List.getElem_map,List.getElem_range,ZaX]
   by_cases h:m=i
   · rw [if_pos h,if_pos h.symm]
   · rw [if_neg h,if_neg (fun e=>h e.symm)]
theorem FB.set{w:World}{g m:Nat}{C:Nat->Value}{t:TypeId}(h:FB w g m C t)(i:Nat)(v:Value):FB (w.setCell ⟨g,i,none⟩ v) g m (ZaX C i v) t:=by
 unfold FB at *
 simp only [World.setCell,Array.getElem?_modify,h]
 simp [Zmr]
theorem FB.same{w w':World}{g m:Nat}{C:Nat->Value}{t:TypeId}(h:FB w g m C t)(e:w'.heap[g]? =w.heap[g]?):FB w' g m C t:=e.trans h
theorem FB.far{w:World}{g m q:Nat}{C:Nat->Value}{t:TypeId}(h:FB w g m C t)(hq:q≠g)(i:Nat)(v:Value):FB (w.setCell ⟨q,i,none⟩ v) g m C t:=h.same (Below.heap_setCell w ⟨q,i,none⟩ v g (fun e=>hq e.symm))
theorem FB.next{w w':World}{g m:Nat}{C:Nat->Value}{t:TypeId}(h:FB w g m C t)(L:Below w.heap.size w w'):FB w' g m C t:=h.same (L.block g h.lt)
theorem FB.congr{w:World}{g m:Nat}{C D:Nat->Value}{t:TypeId}(h:FB w g m C t)(e:∀i,i<m->C i=D i):FB w g m D t:=by
 unfold FB at *
 rw [h]
 congr 2
 congr 1
 exact List.map_congr_left (fun i hi=>e i (List.mem_range.1 hi))
theorem FB.own{base:Nat}{w:World}{g n size:Nat}{C:Nat->Value}{t:TypeId}(h:FB w g (n*size) C t)(hb:base<=g)(hn:n<=maxLen):w.ownsRow base t size (.slice (some ⟨g,0,none⟩) n n) n ((List.range (n*size)).map C):=
 ⟨by simp,Or.inr ⟨g,n,_,rfl,hb,h,Nat.le_refl _,hn,by simp,List.take_of_length_le (by simp)⟩⟩
theorem FB.madeL(w:World)(n:Nat)(t:TypeId):FB (w.alloc (.cells (madeCells #[.slice none 0 0] (n*1)) t)) w.heap.size n (fun _=>.slice none 0 0) t:=by
 have e:madeCells #[.slice none 0 0] (n*1)=((List.range n).map (fun _=>Value.slice none 0 0)).toArray:=by
  apply Array.ext
  · simp [size_madeCells]
  · intro i h1 h2
    simp [madeCells,Nat.mod_one]
 unfold FB
 rw [e]
 show (w.heap.push _)[w.heap.size]? =_
 simp
def ZaQ(j:Nat):Value:=if j % 2=0 then .int .i64 0 else .slice none 0 0
theorem FB.madeM(w:World)(n:Nat)(t:TypeId):FB (w.alloc (.cells (madeCells #[.int .i64 0,.slice none 0 0] (n*2)) t)) w.heap.size (n*2) ZaQ t:=by
 have e:madeCells #[.int .i64 0,.slice none 0 0] (n*2)=((List.range (n*2)).map ZaQ).toArray:=by
  apply Array.ext
  · simp [size_madeCells]
  · intro i h1 h2
    have h3:i % 2=0\/i % 2=1:=Nat.mod_two_eq_zero_or_one i
    rcases h3 with h3 | h3 <;> simp [madeCells,ZaQ,h3]
 unfold FB
 rw [e]
 show (w.heap.push _)[w.heap.size]? =_
 simp
def Zgk(ms:List Mk)(G cc:Nat->Nat)(k j:Nat):Value:=if j / 2<k then (if j % 2=0 then .int .i64 (mid ms (j / 2)) else .slice (some ⟨G (j / 2),0,none⟩) (mat ms (j / 2)).length (cc (j / 2))) else ZaQ j
def dOf(ms:List Mk)(G cc:Nat->Nat)(i:Nat):Dm:=(mid ms i,G i,cc i,mat ms i)
def ZaO(ms:List Mk)(G cc:Nat->Nat):List Dm:=(List.range ms.length).map (dOf ms G cc)
theorem ZbF{ms:List Mk}{G cc:Nat->Nat}{i:Nat}(hi:i<ms.length):Zk (ZaO ms G cc) i=dOf ms G cc i:=by simp [Zk,ZaO,List.getD,hi]
theorem Zbb(ms:List Mk)(G cc:Nat->Nat):(ZaO ms G cc).length=ms.length:=by simp [ZaO]
theorem ZbA(ms:List Mk)(G cc:Nat->Nat):Zj (ZaO ms G cc)=ms:=by
 refine List.ext_getElem (by simp [Zj,ZaO]) (fun i h1 h2=>?_)
 simp [Zj,ZaO,dOf,mid,mat,List.getD,h2]
theorem Zjb(ms:List Mk)(G cc:Nat->Nat):Zu (ZaO ms G cc)=(List.range (ms.length*2)).map (Zgk ms G cc ms.length):=by
 refine List.ext_getElem? (fun j=>?_)
 rcases Nat.lt_or_ge j (ms.length*2) with hj | hj
 · have hi:j / 2<(ZaO ms G cc).length:=by rw [Zbb];omega
   have hi':j / 2<ms.length:=by omega
   obtain⟨c0,c1⟩:=ZbY (ZaO ms G cc) (j / 2) hi
   rw [ZbF hi'] at c0 c1
   rw [List.getElem?_map,List.getElem?_range hj]
   rcases Nat.mod_two_eq_zero_or_one j with hm | hm
   · rw [show j=j / 2*2 by omega,c0]
     simp [Zgk,dOf,hi',show j / 2*2 / 2=j / 2 by omega]
   · rw [show j=j / 2*2+1 by omega,c1]
     have e1:(j / 2*2+1) / 2=j / 2:=by omega
     have e2:(j / 2*2+1) % 2=1:=by omega
     simp [Zgk,dOf,hi',e1,e2]
 · rw [List.getElem?_eq_none (by rw [Zci,Zbb];omega),List.getElem?_eq_none (by simp;omega)]
structure Zag(base:Nat)(w:World)(g k:Nat)(ms:List Mk)(G cc:Nat->Nat)(lo hi:Nat):Prop where
 blk:FB w g (ms.length*2) (Zgk ms G cc k) 29
 rows:∀i,i<k->ZF base w (G i) (cc i) (mat ms i)
 rise:∀i j,i<j->j<k->G i<G j
 within:∀i,i<k->lo<=G i/\G i<hi
 top:hi<=w.heap.size
 ge:base<=g
 out:g<lo
theorem Zag.own{base:Nat}{w:World}{g:Nat}{ms:List Mk}{G cc:Nat->Nat}{lo hi:Nat}(h:Zag base w g ms.length ms G cc lo hi)(hn:ms.length<=maxLen):ZbP base w g ms.length (ZaO ms G cc):=by
 refine⟨?_,fun i hi'=>?_,fun i hi'=>?_,fun i j hi' hj' hne=>?_⟩
 · rw [Zjb,Zbb]
   exact h.blk.own h.ge hn
 · rw [Zbb] at hi'
   rw [ZbF hi']
   exact h.rows i hi'
 · rw [Zbb] at hi'
   rw [ZbF hi']
   have:=h.within i hi'
   have:=h.out
   show G i≠g
   omega
 · rw [Zbb] at hi' hj'
   rw [ZbF hi',ZbF hj']
   show G i≠G j
   rcases Nat.lt_or_ge i j with e | e
   · have:=h.rise i j e hj';omega
   · have:=h.rise j i (by omega) hi';omega
theorem ZF.far15{base:Nat}{w:World}{g c q:Nat}{xs:List Int}(h:ZF base w g c xs)(hq:q≠g)(i:Nat)(v:Value):ZF base (w.setCell ⟨q,i,none⟩ v) g c xs:=h.kept (ZaT w q i v) (fun e=>by injection e with e;exact hq e.symm)
theorem Zag.start{base:Nat}{w:World}{g:Nat}{ms:List Mk}(h:FB w g (ms.length*2) ZaQ 29)(hb:base<=g):Zag base w g 0 ms (fun _=>0) (fun _=>0) (w.heap.size) (w.heap.size):=
 ⟨h.congr (fun i _=>by unfold Zgk;rw [if_neg (by omega)]),fun i hi=>by omega,fun i j _ hj=>by omega,fun i hi=>by omega,Nat.le_refl _,hb,h.lt⟩
theorem Zag.next{base:Nat}{w w':World}{g k:Nat}{ms:List Mk}{G cc:Nat->Nat}{lo hi:Nat}(h:Zag base w g k ms G cc lo hi)(L:Below w.heap.size w w'):Zag base w' g k ms G cc lo hi:=
 ⟨h.blk.next L,fun i hi'=>(h.rows i hi').below L,h.rise,h.within,Nat.le_trans h.top L.size,h.ge,h.out⟩
theorem Zag.far{base:Nat}{w:World}{g k q:Nat}{ms:List Mk}{G cc:Nat->Nat}{lo hi:Nat}(h:Zag base w g k ms G cc lo hi)(hq:q≠g)(hq2:q<lo\/hi<=q)(i:Nat)(v:Value):Zag base (w.setCell ⟨q,i,none⟩ v) g k ms G cc lo hi:=
 ⟨h.blk.far hq i v,fun j hj=>(h.rows j hj).far15 (by have:=h.within j hj;omega) i v,h.rise,h.within,by rw [Zb];exact h.top,h.ge,h.out⟩
theorem Zag.step{base:Nat}{w w':World}{g k h0 c:Nat}{ms:List Mk}{G cc:Nat->Nat}{lo hi:Nat}(h:Zag base w g k ms G cc lo hi)(L:Below w.heap.size w w')(hr:ZF w.heap.size w' h0 c (mat ms k))(hb:base<=w.heap.size)(hlo:lo<=w.heap.size):
 Zag base ((w'.setCell ⟨g,k*2,none⟩ (.int .i64 (mid ms k))).setCell ⟨g,k*2+1,none⟩ (.slice (some ⟨h0,0,none⟩) (mat ms k).length c)) g (k+1) ms (Zin G k h0) (Zin cc k c) lo w'.heap.size:=by
 have hN:=h.next L
 have hg:=h.blk.lt
 have hl:=hr.lt
 have htop:=h.top
 refine⟨((hN.blk.set (k*2) _).set (k*2+1) _).congr (fun j hj=>?_),fun i hi'=>?_,fun i j hij hj=>?_,fun i hi'=>?_,by simp [World.setCell],h.ge,h.out⟩
 · unfold ZaX Zgk
   by_cases e1:j=k*2+1
   · rw [if_pos e1,if_pos (by omega),if_neg (by omega)]
     have:j / 2=k:=by omega
     rw [this]
     simp [Zin]
   · rw [if_neg e1]
     by_cases e2:j=k*2
     · rw [if_pos e2,if_pos (by omega),if_pos (by omega)]
       have:j / 2=k:=by omega
       rw [this]
     · rw [if_neg e2]
       by_cases e3:j / 2<k
       · have:j / 2≠k:=by omega
         have e4:j / 2<k+1:=by omega
         simp [Zin,this,e3,e4]
       · rw [if_neg e3,if_neg (by omega)]
 · unfold Zin
   by_cases e:i=k
   · rw [if_pos e,if_pos e,e]
     exact (((hr.far15 (by omega) _ _).far15 (by omega) _ _).mono hb)
   · rw [if_neg e,if_neg e]
     have hw:=h.within i (by omega)
     have ho:=h.out
     exact ((hN.rows i (by omega)).far15 (by omega) _ _).far15 (by omega) _ _
 · unfold Zin
   by_cases e:j=k
   · rw [if_pos e,if_neg (by omega)]
     have:=h.within i (by omega)
     omega
   · rw [if_neg (by omega),if_neg e]
     exact h.rise i j hij (by omega)
 · unfold Zin
   by_cases e:i=k
   · rw [if_pos e];omega
   · rw [if_neg e]
     have:=h.within i (by omega)
     have:=L.size
     omega
theorem Zag.raise{base:Nat}{w:World}{g k:Nat}{ms:List Mk}{G cc:Nat->Nat}{lo hi H:Nat}(h:Zag base w g k ms G cc lo hi)(h1:hi<=H)(h2:H<=w.heap.size):Zag base w g k ms G cc lo H:=
 ⟨h.blk,h.rows,h.rise,fun i hi'=>by have:=h.within i hi';omega,h2,h.ge,h.out⟩
structure NM(base:Nat)(w:World)(g n:Nat)(V:Nat->Value)(X:Nat->List Int)(lo:Nat):Prop where
 blk:FB w g n V 27
 own:∀i,i<n->w.ownsRow lo 2 1 (V i) (X i).length ((X i).map (Value.int .i64))
 apart:∀i j,i<n->j<n->i≠j->(V i).ownBlock=none\/(V i).ownBlock≠(V j).ownBlock
 ge:base<=g
 out:g<lo
 top:lo<=w.heap.size
theorem ZbB{w w':World}{b:Nat}{v:Value}{n:Nat}{xs:List Value}(h:w.ownsRow b 2 1 v n xs)(e:∀g,v.ownBlock=some g->w'.heap[g]? =w.heap[g]?):w'.ownsRow b 2 1 v n xs:=by
 obtain⟨h1,h2 | ⟨g,cap,cur,rfl,hb,hg,h3⟩⟩:=h
 · exact⟨h1,Or.inl h2⟩
 · exact⟨h1,Or.inr ⟨g,cap,cur,rfl,hb,(e g rfl).trans hg,h3⟩⟩
theorem Zaq{w:World}{b:Nat}{v:Value}{n:Nat}{xs:List Value}(h:w.ownsRow b 2 1 v n xs){g:Nat}(e:v.ownBlock=some g):b<=g/\g<w.heap.size:=World.ownsRow.lt h g e
theorem ZiT{w:World}{b b':Nat}{v:Value}{n:Nat}{xs:List Value}(h:w.ownsRow b 2 1 v n xs)(hb:b'<=b):w.ownsRow b' 2 1 v n xs:=
 ⟨h.1,h.2.imp id fun ⟨g,cap,cur,h1,h2,h3⟩=>⟨g,cap,cur,h1,Nat.le_trans hb h2,h3⟩⟩
theorem Zcb{w:World}{b:Nat}{v:Value}{xs:List Int}(h:w.ownsRow b 2 1 v xs.length (xs.map (Value.int .i64))):∃a c,v=.slice a xs.length c/\Zs w a xs:=by
 obtain⟨h1,⟨rfl,h2⟩ | ⟨g,cap,cur,rfl,h3⟩⟩:=h
 · exact⟨none,0,by rw [h2],Or.inl (List.length_eq_zero_iff.1 h2)⟩
 · have hr:ZF b w g cap xs:=⟨h1,Or.inr ⟨g,cap,cur,rfl,h3⟩⟩
   exact⟨some ⟨g,0,none⟩,cap,rfl,hr.view⟩
theorem NM.next{base:Nat}{w w':World}{g n:Nat}{V:Nat->Value}{X:Nat->List Int}{lo:Nat}(h:NM base w g n V X lo)(L:Below w.heap.size w w'):NM base w' g n V X lo:=
 ⟨h.blk.next L,fun i hi=>ZbB (h.own i hi) (fun q e=>L.block q (Zaq (h.own i hi) e).2),h.apart,h.ge,h.out,Nat.le_trans h.top L.size⟩
theorem NM.view{base:Nat}{w:World}{g n:Nat}{V:Nat->Value}{X:Nat->List Int}{lo:Nat}(h:NM base w g n V X lo):Z8 w (some ⟨g,0,none⟩) ((List.range n).map X):=by
 refine Or.inr ⟨g,0,rfl,h.blk.lt,fun i hi=>?_⟩
 have hi':i<n:=by simpa using hi
 obtain⟨a,c,e,hv⟩:=Zcb (h.own i hi')
 have ec:cn ((List.range n).map X) i=X i:=by simp [cn,List.getD,hi']
 rw [ec,Nat.zero_add]
 exact⟨a,c,(h.blk.cell hi').trans (by rw [e]),hv⟩
theorem NM.start{base:Nat}{w:World}{g n:Nat}(h:FB w g n (fun _=>.slice none 0 0) 27)(hb:base<=g){lo:Nat}(hlo:g<lo)(ht:lo<=w.heap.size):NM base w g n (fun _=>.slice none 0 0) (fun _=>[]) lo:=
 ⟨h,fun _ _=>⟨rfl,Or.inl ⟨rfl,rfl⟩⟩,fun _ _ _ _ _=>Or.inl rfl,hb,hlo,ht⟩
theorem NM.congr{base:Nat}{w:World}{g n:Nat}{V:Nat->Value}{X Y:Nat->List Int}{lo:Nat}(h:NM base w g n V X lo)(e:∀i,i<n->X i=Y i):NM base w g n V Y lo:=
 ⟨h.blk,fun i hi=>by rw [<-e i hi];exact h.own i hi,h.apart,h.ge,h.out,h.top⟩
theorem NM.far{base:Nat}{w:World}{g n q:Nat}{V:Nat->Value}{X:Nat->List Int}{lo:Nat}(h:NM base w g n V X lo)(hq:q≠g)(hq2:q<lo)(i:Nat)(v:Value):NM base (w.setCell ⟨q,i,none⟩ v) g n V X lo:=
 ⟨h.blk.far hq i v,fun j hj=>ZbB (h.own j hj) (fun b e=>Below.heap_setCell w ⟨q,i,none⟩ v b (fun e'=>by have:=Zaq (h.own j hj) e;have:b=q:=e';omega)),h.apart,h.ge,h.out,by rw [Zb];exact h.top⟩
def Zen(f:Nat->List Int)(m:Nat)(v:List Int)(i:Nat):List Int:=if i=m then v else f i
theorem NM.put{base:Nat}{w w':World}{g n:Nat}{V:Nat->Value}{X:Nat->List Int}{lo:Nat}(h:NM base w g n V X lo){m:Nat}(hm:m<n){v:Value}{xs:List Int}(ho:w'.ownsRow lo 2 1 v xs.length (xs.map (Value.int .i64)))
 (hg:w.grownBy w' (V m).ownBlock) (hat:v.ownBlock=none\/v.ownBlock=(V m).ownBlock\/∃q,v.ownBlock=some q/\w.heap.size<=q):NM base (w'.setCell ⟨g,m,none⟩ v) g n (ZaX V m v) (Zen X m xs) lo:=by
 have hgl:=h.blk.lt
 have hout:=h.out
 have hVm:∀q,(V m).ownBlock=some q->lo<=q/\q<w.heap.size:=fun q e=>Zaq (h.own m hm) e
 have hs:∀i,i≠g->(w'.setCell ⟨g,m,none⟩ v).heap[i]? =w'.heap[i]? :=fun i hi=>Below.heap_setCell w' ⟨g,m,none⟩ _ i (fun e=>hi e)
 have hb':FB w' g n V 27:=h.blk.same (hg.block g hgl (fun e=>by have:=hVm g e.symm;omega))
 refine⟨hb'.set m v,fun i hi=>?_,fun i j hi hj hij=>?_,h.ge,hout,by rw [Zb];exact Nat.le_trans h.top hg.size⟩
 · unfold ZaX Zen
   by_cases e:i=m
   · rw [if_pos e,if_pos e]
     exact ZbB ho (fun q eq=>hs q (by have:=Zaq ho eq;omega))
   · rw [if_neg e,if_neg e]
     refine ZbB (h.own i hi) (fun q eq=>?_)
     have hq:=Zaq (h.own i hi) eq
     refine (hs q (by omega)).trans (hg.block q hq.2 (fun e'=>?_))
     rcases h.apart i m hi hm e with h1 | h1
     · rw [h1] at eq;cases eq
     · exact h1 (eq.trans e')
 · unfold ZaX
   have key:∀k,k<n->k≠m->(V k).ownBlock=none\/(V k).ownBlock≠v.ownBlock:=fun k hk hne=>by
    rcases hat with e | e | ⟨q,e,hq⟩
    · rcases h.apart k m hk hm hne with h1 | h1
      · exact Or.inl h1
      · by_cases hn:(V k).ownBlock=none
        · exact Or.inl hn
        · exact Or.inr (fun e'=>hn (e'.trans e))
    · rcases h.apart k m hk hm hne with h1 | h1
      · exact Or.inl h1
      · exact Or.inr (fun e'=>h1 (e'.trans e))
    · refine Or.inr (fun e'=>?_)
      have:=Zaq (h.own k hk) (e'.trans e)
      omega
   by_cases e1:i=m
   · rw [if_pos e1,if_neg (by omega)]
     rcases key j hj (by omega) with h1 | h1
     · by_cases hn:v.ownBlock=none
       · exact Or.inl hn
       · exact Or.inr (fun e'=>hn (e'.trans h1))
     · exact Or.inr (fun e'=>h1 e'.symm)
   · rw [if_neg e1]
     by_cases e2:j=m
     · rw [if_pos e2];exact key i hi e1
     · rw [if_neg e2];exact h.apart i j hi hj hij
end Go.Proofs.YtaaagmgglolibaaGreat
namespace Go.Proofs.YtaaagmgglolibaaGreat
open Go
theorem ZkR{l:List Int}{x:Int}(h:∀y∈l,y<x):Zaw l x=l++[x]:=by
 induction l with
 | nil=>rfl
 | cons a l ih=>
   have h1:=h a (by simp)
   simp only [Zaw]
   rw [if_pos (by omega)] <;> first | (rw [ih (fun y hy=>h y (by simp [hy]))];rfl) | skip
def lkX(ms:List Mk)(ls:List (List Int))(ids:List Int)(x:Int)(t i:Nat):List Int:=if i<ms.length then Zcj ms ls (ids.take t) x i else ZcI (ids.take t)
theorem Zkp{ms:List Mk}{ls:List (List Int)}(hl:ls.length=ms.length)(ids:List Int)(x:Int){i:Nat}(hi:i<ms.length+1):cn (ls++[[]]) i=lkX ms ls ids x 0 i:=by
 unfold lkX
 by_cases h:i<ms.length
 · rw [if_pos h]
   simp [Zcj,ZaK,cn,List.getD,List.getElem?_append_left (show i<ls.length by omega)]
 · rw [if_neg h]
   obtain rfl:i=ms.length:=by omega
   simp [ZcI,cn,List.getD,<-hl]
theorem Zm8(ms:List Mk)(ls:List (List Int))(ids:List Int)(x:Int){i:Nat}(hi:i<ms.length+1):lkX ms ls ids x ids.length i=cn (Zcx ms ls ids x) i:=by
 unfold lkX
 rw [List.take_length]
 by_cases h:i<ms.length
 · rw [if_pos h,ZeK h]
 · rw [if_neg h,show i=ms.length by omega,Zes]
theorem Znv{ms:List Mk}{m:Mk}(hm:Zn (ms++[m])=true):∀j,j<ms.length->mid ms j<m.1:=by
 have key:∀k,k<=ms.length->∀j,j<k->mid (ms++[m]) j<mid (ms++[m]) k:=by
  intro k
  induction k with
  | zero=>intro _ j hj;omega
  | succ k ih=>
    intro hk j hj
    have h1:=((ZG _ _).1 (ZM hm (i:=k+1) (by simp;omega))).2.2.2.2
    rcases h1 with h1 | h1
    · omega
    · rw [show k+1-1=k by omega] at h1
      rcases Nat.lt_or_ge j k with e | e
      · have:=ih (by omega) j e;omega
      · rw [show j=k by omega];exact h1
 intro j hj
 have:=key ms.length (Nat.le_refl _) j hj
 rw [Zc0 hj,Zc1] at this
 exact this
theorem Zkq{ms:List Mk}{m:Mk}(hm:Zn (ms++[m])=true){j:Nat}(hj:j<ms.length):0<=Zv (ms++[m]) (mid ms j)/\Zy (ms++[m]) (mid ms j)=j:=by
 have:=Zam hm (i:=j) (by simp;omega)
 rw [Zc0 hj] at this
 exact⟨by omega,this.2⟩
theorem Zkr{ms:List Mk}{m:Mk}(hm:Zn (ms++[m])=true):0<=Zv (ms++[m]) m.1/\Zy (ms++[m]) m.1=ms.length:=by
 have:=Zam hm (i:=ms.length) (by simp)
 rw [Zc1] at this
 exact⟨by omega,this.2⟩
theorem Zl0{ms:List Mk}{ls:List (List Int)}{m:Mk}(hw:Zab ms ls=true)(hm:Zn (ms++[m])=true){ids:List Int}(hd:ids.Nodup)(hf:∀y∈ids,0<=Zv ms y){t:Nat}(ht:t<ids.length):
 ∃j,j<ms.length/\nth ids t=mid ms j/\lkX ms ls ids m.1 t j=cn ls j/\(cn ls j).Pairwise (fun a b=>a<b)/\m.1 ∉ cn ls j/\(cn ls j).length<=60/\(ZcI (ids.take t)).Pairwise (fun a b=>a<b)/\nth ids t ∉ ZcI (ids.take t)/\(ZcI (ids.take t)).length<=60/\
  ∀i,Zen (Zen (lkX ms ls ids m.1 t) j (Zaw (cn ls j) m.1)) ms.length (Zaw (ZcI (ids.take t)) (nth ids t)) i=lkX ms ls ids m.1 (t+1) i\/ms.length<i:=by
 have hmem:nth ids t∈ids:=by simp [nth,List.getD,ht]
 obtain⟨a,b,c⟩:=ZQ (hf _ hmem)
 have hms:=ZJ hw
 have h60:=ZA hms
 have hnt:=ZfD hd ht
 have hlt:∀y∈cn ls (Zy ms (nth ids t)),y<m.1:=fun y hy=>by
  obtain⟨h1,h2,h3,-⟩:=Zd2 hw a hy
  have:=Znv hm _ h2
  rw [h3] at this
  exact this
 have hlk:Zcj ms ls (ids.take t) m.1 (Zy ms (nth ids t))=cn ls (Zy ms (nth ids t)):=by
  unfold Zcj
  rw [if_neg]
  rw [c,Z2]
  exact hnt
 refine⟨Zy ms (nth ids t),a,c.symm,by unfold lkX;rw [if_pos a,hlk],ZdD (Zfz hw a),fun h=>by have:=hlt _ h;omega,by have:=ZcN hw a;omega,(Zer _ [] List.Pairwise.nil).1,by rw [ZfA];exact hnt,?_,fun i=>?_⟩
 · have h1:=Ze1 (ids.take t) []
   have h2:=Zeh hd hf
   unfold ZcI
   simp at h1
   omega
 · rcases Nat.lt_or_ge ms.length i with h | h
   · exact Or.inr h
   · left
     unfold Zen lkX
     by_cases e1:i=ms.length
     · rw [if_pos e1,if_neg (by omega)]
       unfold ZcI
       rw [List.take_add_one,List.getElem?_eq_getElem ht,List.foldl_append]
       simp [nth,List.getD,ht]
     · have hi:i<ms.length:=by omega
       rw [if_neg e1]
       by_cases e2:i=Zy ms (nth ids t)
       · rw [if_pos e2,if_pos hi,ZkR hlt,e2]
         unfold Zcj
         rw [if_pos]
         rw [c,Z2,Zd4 ht]
         exact Or.inr rfl
       · rw [if_neg e2,if_pos hi,if_pos hi]
         unfold Zcj
         have:ZaK (ids.take (t+1)) (mid ms i)=ZaK (ids.take t) (mid ms i):=by
          rw [Bool.eq_iff_iff,Z2,Z2,Zd4 ht]
          constructor
          · rintro (h1 | h1)
            · exact h1
            · exfalso
              apply e2
              rw [<-h1,(Zam hms hi).2]
          · exact Or.inl
         rw [this]
end Go.Proofs.YtaaagmgglolibaaGreat
namespace Go.Proofs.YtaaagmgglolibaaGreat
open Go Go.RowKit
theorem ZoF(ao:Option Addr)(cap:Nat)(xs:List Int)(x:Int)(w:World)(hv:Zs w ao xs)(hn:xs.length<=4194304):
 Calls Tryz.prog 303 #[.slice ao xs.length cap,.int .i64 x] w fun e w'=>(∃r:Int,e=.returned (.int .i64 r)/\decide (0<=r)=ZaK xs x)/\w'=w:=by
 go_enter Tryz.func303,Tryz.ntmps303
 go_wp2_with fail
 go_loop [8] (fun i=>∃k:Nat,k<=xs.length/\i=.int .i64 k/\∀j,j<k->nth xs j≠x) (fun i=>xs.length-(intOf i).toNat)
 case atStart=>exact⟨0,Nat.zero_le _,rfl,fun j hj=>by omega⟩
 case round=>
  obtain⟨k,hk,rfl,hall⟩:=hrel
  have HA:=Za hall
  clear hall
  by_cases hlt:k<xs.length
  · obtain⟨b,off,rfl,hb,hs⟩:∃b off,ao=some ⟨b,off,none⟩/\b<w.heap.size/\Seg w b off xs:=by
     rcases hv with h | h
     · subst h;simp at hlt
     · exact h
    have hc:=hs k hlt
    by_cases he:nth xs k=x
    · have HV:=Za (ZdT hlt he)
      have heb:(x ==nth xs k)=true:=by simp [he]
      clear he
      go_wp2_with fail
      go_ret
      exact⟨⟨(k:Int),rfl,by rw [HV.out];simp⟩,rfl⟩
    · have heb:(x ==nth xs k)=false:=by simp;exact fun e=>he e.symm
      have HE:=Za he
      clear he
      go_wp2_with fail
      go_round
      case rel=>exact⟨k+1,by omega,by go_num,fun j hj=>by
       rcases Nat.lt_or_ge j k with h | h
       · exact HA.out j h
       · rw [show j=k by omega];exact HE.out⟩
      case measure=>simp [intOf];omega
  · go_wp2_with fail
    go_ret
    obtain rfl:k=xs.length:=by omega
    exact⟨⟨-1,rfl,by rw [Zdl HA.out];rfl⟩,rfl⟩
theorem pHas(ao:Option Addr)(cap:Nat)(xs:List Int)(x:Int)(w:World)(hv:Zs w ao xs)(hn:xs.length<=4194304):
 Calls Tryz.prog 285 #[.slice ao xs.length cap,.int .i64 x] w fun e w'=>e=.returned (.bool (ZaK xs x))/\w'=w:=by
 have HI:=Za (ZoF ao cap xs x w hv hn)
 clear hv
 go_enter Tryz.func285,Tryz.ntmps285
 go_wp2_with fail
 refine HI.out.mono ?_
 rintro e w2 ⟨⟨r,rfl,hr⟩,hw⟩
 subst w2
 go_wp2_with fail
 go_ret
 exact⟨Zg (by rw [<-hr]),rfl⟩
end Go.Proofs.YtaaagmgglolibaaGreat
