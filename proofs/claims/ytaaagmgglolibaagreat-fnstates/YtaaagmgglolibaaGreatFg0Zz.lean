import Derived.Test.YtaaagmgglolibaaGreatHSpecZz
import Derived.Test.YtaaagmgglolibaaGreatArgsZz
import Derived.Test.YtaaagmgglolibaaGreatMathZz
import Derived.Deep.RegionHeld3
import Derived.BigQuiet
import Derived.Test.YtaaagmgglolibaaGreatFeHelpZz
import Derived.Test.YtaaagmgglolibaaGreatSCellsZz
set_option maxRecDepth 100000
set_option maxHeartbeats 2000000
namespace Go.Proofs.YtaaagmgglolibaaGreat
open Go Go.RowKit
def plc(x:Int):List Mk->Nat
 | []=>0
 | m::l=>if m.1<x then plc x l+1 else 0
theorem Zn5(x:Int)(l:List Mk):plc x l<=l.length:=by
 induction l with
 | nil=>simp [plc]
 | cons m l ih=>simp only [plc];split <;> simp <;> omega
theorem Zjn(x:Int)(l:List Mk)(i:Nat)(hi:i<plc x l):mid l i<x:=by
 induction l generalizing i with
 | nil=>simp [plc] at hi
 | cons m l ih=>
   simp only [plc] at hi
   by_cases hm:m.1<x
   · rw [if_pos hm] at hi
     match i with
     | 0=>simpa [mid] using hm
     | i+1=>simpa [mid] using ih i (by omega)
   · simp [hm] at hi
theorem Zlh(x:Int)(l:List Mk)(h:plc x l<l.length):x<=mid l (plc x l):=by
 induction l with
 | nil=>simp at h
 | cons m l ih=>
   simp only [plc] at h ⊢
   by_cases hm:m.1<x
   · rw [if_pos hm] at h ⊢
     simpa [mid] using ih (by simpa using h)
   · rw [if_neg hm]
     simpa [mid] using hm
theorem Zli{ms:List Mk}(h:Zn ms=true)(x:Int)(i:Nat)(hi:plc x ms<=i)(hl:i<ms.length):x<=mid ms i:=by
 have h1:=Zlh x ms (by omega)
 rcases Nat.lt_or_ge (plc x ms) i with c | c
 · have:=Zbd h c hl;omega
 · rw [show i=plc x ms by omega];exact h1
theorem Zhi{ms:List Mk}(h:Zn ms=true)(x:Int):(decide (plc x ms<ms.length) && decide (mid ms (plc x ms)=x))=decide (0<=Zv ms x):=by
 by_cases hf:0<=Zv ms x
 · obtain⟨a,b,c⟩:=ZQ hf
   have h1:plc x ms<=Zy ms x:=by
    rcases Nat.lt_or_ge (Zy ms x) (plc x ms) with e | e
    · have:=Zjn x ms _ e;omega
    · exact e
   have h2:=Zlh x ms (by omega)
   have h3:plc x ms=Zy ms x:=by
    rcases Nat.lt_or_ge (plc x ms) (Zy ms x) with e | e
    · have:=Zbd h e a;omega
    · omega
   rw [h3,c]
   simp [a,hf]
 · rw [decide_eq_false hf,Bool.and_eq_false_iff]
   by_cases hl:plc x ms<ms.length
   · right
     refine decide_eq_false fun e=>hf ?_
     rw [<-e,(Zam h hl).1];omega
   · left;exact decide_eq_false hl
theorem Zgy{ms:List Mk}(h:Zn ms=true){x:Int}(hf:0<=Zv ms x):plc x ms=Zy ms x:=by
 have e:=Zhi h x
 rw [decide_eq_true hf] at e
 simp at e
 obtain⟨a,b,c⟩:=ZQ hf
 exact Ze8 h e.1 a (by omega)
def Zcn(x y:Int):Int:=if x<y then -1 else if y<x then 1 else 0
theorem Zlj(x y:Int):decide (Zcn x y<0)=decide (x<y):=by
 unfold Zcn
 by_cases h1:x<y
 · simp [h1]
 · by_cases h2:y<x <;> simp [h1,h2]
theorem ZjY(x y:Int):(Zcn x y ==0)=decide (x=y):=by
 unfold Zcn
 by_cases h1:x<y
 · simp [h1];omega
 · by_cases h2:y<x
   · simp [h1,h2];omega
   · simp [h1,h2];omega
theorem Zlk(x y:Int)(w:World):
 Calls Tryz.prog 262 #[.int .i64 x,.int .i64 y] w fun e w'=>e=.returned (.int .i64 (Zcn x y))/\w'=w:=by
 have hx:(x !=x)=false:=by simp
 have hy:(y !=y)=false:=by simp
 by_cases h1:x<y
 · have HV:Hid (Zcn x y= -1):=by show Zcn x y= -1;simp [Zcn,h1]
   go_enter Tryz.func262,Tryz.ntmps262
   go_wp2
   go_ret
   exact⟨ZK HV.out.symm,rfl⟩
 · by_cases h2:y<x
   · have HV:Hid (Zcn x y=1):=by show Zcn x y=1;simp [Zcn,h1,h2]
     go_enter Tryz.func262,Tryz.ntmps262
     go_wp2
     go_ret
     exact⟨ZK HV.out.symm,rfl⟩
   · have HV:Hid (Zcn x y=0):=by show Zcn x y=0;simp [Zcn,h1,h2]
     go_enter Tryz.func262,Tryz.ntmps262
     go_wp2
     go_ret
     exact⟨ZK HV.out.symm,rfl⟩
theorem Zjo(x y:Int)(a1 a2:Option Addr)(n1 c1 n2 c2:Nat)(w:World):
 Calls Tryz.prog 251 #[.agg #[.int .i64 x,.slice a1 n1 c1],.agg #[.int .i64 y,.slice a2 n2 c2]] w fun e w'=>e=.returned (.int .i64 (Zcn x y))/\Below w.heap.size w w':=by
 have hB:Below w.heap.size w ((w.alloc (.cells #[.int .i64 x,.slice a1 n1 c1] 29)).alloc (.cells #[.int .i64 y,.slice a2 n2 c2] 29)):=((Below.refl _ _).alloc (Nat.le_refl _) _).alloc (by simp) _
 have HB:=Za hB
 clear hB
 go_enter Tryz.func251,Tryz.ntmps251
 go_wp2_with (go_at_call 262;refine (Zlk _ _ _).mono ?_;rintro e w' ⟨rfl,rfl⟩)
 go_ret
 exact⟨rfl,HB.out⟩
theorem ZjZ(am:Option Addr)(cm:Nat)(ms:List Mk)(x:Int)(w:World)(hm:Zq w am ms)(hb:Zn ms=true):
 Calls Tryz.prog 250 #[.slice am ms.length cm,.agg #[.int .i64 x,.slice none 0 0],.func (.func 251) #[] #[]] w fun e w'=>e=.returned (.tuple #[.int .i64 (plc x ms:Nat),.bool (decide (0<=Zv ms x))])/\Below w.heap.size w w':=by
 obtain⟨W,hW⟩:∃W,w.alloc (.cells #[.int .i64 x,.slice none 0 0] 29)=W:=⟨_,rfl⟩
 obtain⟨X,hX⟩:∃X,X=w.heap.size:=⟨_,rfl⟩
 have hXW:X<W.heap.size:=by rw [<-hW,hX];simp
 have hx0:W.cell? ⟨X,0,none⟩=some (.int .i64 x):=by rw [<-hW,hX];simp
 have hx1:W.cell? ⟨X,1,none⟩=some (.slice none 0 0):=by rw [<-hW,hX];simp
 have HB:Hid (Below w.heap.size w W):=by show Below w.heap.size w W;rw [<-hW];exact (Below.refl _ _).alloc (Nat.le_refl _) _
 have HM:Hid (Zq W am ms):=hm.next HB.out
 have hlen:=ZA hb
 have HLO:=Za (Zjn x ms)
 have HHI:=Za (Zli hb x)
 have HF:=Za (Zhi hb x)
 have hpl:=Zn5 x ms
 clear hm hb
 generalize plc x ms=p at *
 generalize decide (0<=Zv ms x)=fb at *
 go_enter Tryz.func250,Tryz.ntmps250
 go_wp2_with fail
 rw [<-hX]
 clear hW hX
 go_loopw [9,10] (fun i j wr=>∃u v:Nat,u<=p/\p<=v/\v<=ms.length/\i=.int .i64 u/\j=.int .i64 v/\Below W.heap.size W wr) (fun i j _=>(intOf j).toNat-(intOf i).toNat)
 case atStart=>exact⟨0,ms.length,Nat.zero_le _,hpl,Nat.le_refl _,rfl,rfl,Below.refl _ _⟩
 case round=>
  obtain⟨u,v,hup,hpv,hv,rfl,rfl,L⟩:=hrel
  have x0:wr.cell? ⟨X,0,none⟩=some (.int .i64 x):=(L.cell (p:=⟨X,0,none⟩) hXW).trans hx0
  have x1:wr.cell? ⟨X,1,none⟩=some (.slice none 0 0):=(L.cell (p:=⟨X,1,none⟩) hXW).trans hx1
  have hXr:X<wr.heap.size:=Nat.lt_of_lt_of_le hXW L.size
  have HL:=Za L
  have hmr:=HM.out.next L
  clear L
  by_cases hlt:u<v
  · have hu1:IntKind.u64.wrap ((u:Int)+(v:Int))=(u:Int)+(v:Int):=by rw [IntKind.wrap_u64];omega
    obtain⟨m,hm⟩:∃m:Nat,m=(u+v) / 2:=⟨_,rfl⟩
    have hmi:((u:Int)+(v:Int)) / 2=(m:Int):=by omega
    have hm1:u<=m/\m<v:=by omega
    obtain⟨b,off,rfl,hbr,hs⟩:=Zbi.seg hmr (by omega)
    obtain⟨c0,ao,cc,c1,-⟩:=hs.at (i:=m) (by omega)
    have HMI:=Za hmi
    have HM1:=Za hm1
    have hm0:(0:Int)<=(m:Int):=Int.natCast_nonneg _
    have hml:(m:Int)<(ms.length:Int):=by omega
    have HC:Hid (∀W',Calls Tryz.prog 251 #[.agg #[.int .i64 (mid ms m),.slice ao (mat ms m).length cc],.agg #[.int .i64 x,.slice none 0 0]] W' fun e w'=>e=.returned (.int .i64 (Zcn (mid ms m) x))/\Below W'.heap.size W' w'):=fun W'=>Zjo _ _ _ _ _ _ _ _ W'
    have hcn:=Zlj (mid ms m) x
    have hlow:m<p->mid ms m<x:=HLO.out m
    have hhigh:p<=m->x<=mid ms m:=fun h=>HHI.out m h (by omega)
    have HR:Hid ((mid ms m<x->m<p)/\(x<=mid ms m->p<=m)):=⟨fun h=>by
     rcases Nat.lt_or_ge m p with e | e
     · exact e
     · have:=hhigh e;omega,fun h=>by
     rcases Nat.lt_or_ge m p with e | e
     · have:=hlow e;omega
     · exact e⟩
    clear hmi hm hm1 hs hmr hlow hhigh
    generalize mid ms m=y at *
    generalize (mat ms m).length=yl at *
    generalize Zcn y x=cv at *
    go_wp2_with fail
    rw [HMI.out]
    have HK:Hid (∀w',Below wr.heap.size wr w'->w'.cell? ⟨b,off+m*2,none⟩=some (.int .i64 y)/\w'.cell? ⟨b,off+m*2+1,none⟩=some (.slice ao yl cc)/\w'.cell? ⟨X,0,none⟩=some (.int .i64 x)/\w'.cell? ⟨X,1,none⟩=some (.slice none 0 0)):=fun w' L=>⟨(L.cell (p:=⟨b,off+m*2,none⟩) hbr).trans c0,(L.cell (p:=⟨b,off+m*2+1,none⟩) hbr).trans c1,(L.cell (p:=⟨X,0,none⟩) hXr).trans x0,(L.cell (p:=⟨X,1,none⟩) hXr).trans x1⟩
    go_region_held3 (fun w'=>w'.cell? ⟨b,off+m*2,none⟩=some (.int .i64 y)/\w'.cell? ⟨b,off+m*2+1,none⟩=some (.slice ao yl cc)/\w'.cell? ⟨X,0,none⟩=some (.int .i64 x)/\w'.cell? ⟨X,1,none⟩=some (.slice none 0 0))
     (first
       | go_keep
       | exact HK.out _ (Below.trans ((Below.refl wr.heap.size wr).drew) L2))
     (first | (go_at_call 251;refine (HC.out _).mono ?_;rintro e w2 ⟨rfl,L2⟩))
    have HL3:Hid (Below W.heap.size W w2):=Zd HL.out (Below.trans ((Below.refl wr.heap.size wr).drew) L2)
    clear L2 HC HK x0 x1 c0 c1
    simp only [Exit.then]
    by_cases hyx:y<x
    · have hcl:cv<0:=by simpa [hyx] using hcn
      go_wp2_with fail
      go_roundw
      case rel=>exact⟨m+1,v,HR.out.1 hyx,hpv,hv,by go_num,rfl,HL3.out⟩
      case measure=>have:=HM1.out;simp [intOf];omega
    · have hcl:¬cv<0:=by simpa [hyx] using hcn
      go_wp2_with fail
      go_roundw
      case rel=>exact⟨u,m,hup,HR.out.2 (by omega),by have:=HM1.out;omega,rfl,rfl,HL3.out⟩
      case measure=>have:=HM1.out;simp [intOf];omega
  · obtain rfl:u=p:=by omega
    by_cases hp:u<ms.length
    · obtain⟨b,off,rfl,hbr,hs⟩:=Zbi.seg hmr (by omega)
      obtain⟨c0,ao,cc,c1,-⟩:=hs.at (i:=u) hp
      have hm0:(0:Int)<=(u:Int):=Int.natCast_nonneg _
      have hml:(u:Int)<(ms.length:Int):=by omega
      have HC:Hid (∀W',Calls Tryz.prog 251 #[.agg #[.int .i64 (mid ms u),.slice ao (mat ms u).length cc],.agg #[.int .i64 x,.slice none 0 0]] W' fun e w'=>e=.returned (.int .i64 (Zcn (mid ms u) x))/\Below W'.heap.size W' w'):=fun W'=>Zjo _ _ _ _ _ _ _ _ W'
      have HV:Hid ((Zcn (mid ms u) x ==0)=fb):=by show _=_;rw [ZjY,<-HF.out];simp [hp]
      clear HF hs hmr HLO HHI
      generalize mid ms u=y at *
      generalize (mat ms u).length=yl at *
      generalize Zcn y x=cv at *
      have HK:Hid (∀w',Below wr.heap.size wr w'->w'.cell? ⟨b,off+u*2,none⟩=some (.int .i64 y)/\w'.cell? ⟨b,off+u*2+1,none⟩=some (.slice ao yl cc)/\w'.cell? ⟨X,0,none⟩=some (.int .i64 x)/\w'.cell? ⟨X,1,none⟩=some (.slice none 0 0)):=fun w' L=>⟨(L.cell (p:=⟨b,off+u*2,none⟩) hbr).trans c0,(L.cell (p:=⟨b,off+u*2+1,none⟩) hbr).trans c1,(L.cell (p:=⟨X,0,none⟩) hXr).trans x0,(L.cell (p:=⟨X,1,none⟩) hXr).trans x1⟩
      go_wp2_with fail
      go_region_held3 (fun w'=>w'.cell? ⟨b,off+u*2,none⟩=some (.int .i64 y)/\w'.cell? ⟨b,off+u*2+1,none⟩=some (.slice ao yl cc)/\w'.cell? ⟨X,0,none⟩=some (.int .i64 x)/\w'.cell? ⟨X,1,none⟩=some (.slice none 0 0))
       (first
         | go_keep
         | exact HK.out _ (Below.trans ((Below.refl wr.heap.size wr).drew) L2))
       (first | (go_at_call 251;refine (HC.out _).mono ?_;rintro e w2 ⟨rfl,L2⟩))
      have HL3:Hid (Below W.heap.size W w2):=Zd HL.out (Below.trans ((Below.refl wr.heap.size wr).drew) L2)
      clear L2 HC HK x0 x1 c0 c1
      simp only [Exit.then]
      go_wp2_with fail
      go_ret2
      exact⟨by rw [<-HV.out];rfl,Zd HB.out HL3.out⟩
    · have HV:Hid (false=fb):=by show _=_;rw [<-HF.out];simp [hp]
      clear HF hmr HLO HHI
      obtain rfl:u=ms.length:=by omega
      have hml:¬((ms.length:Int)<(ms.length:Int)):=by omega
      go_wp2_with fail
      refine wp_region_quiet_lit (by kernel_rfl) (by kernel_rfl) ?_
      try simp only [List.append_eq,List.cons_append,List.nil_append]
      repeat (go_big_quiet_step (fail))
      refine wpQuiet_nil ?_
      intro _ hw'
      obtain⟨nq,hw''⟩:=hw'
      subst hw''
      go_wp2_with fail
      go_ret2
      exact⟨by rw [<-HV.out];rfl,Zd HB.out (below_drewN HL.out _)⟩
theorem Zis(am al:Option Addr)(cm nl cl:Nat)(ms:List Mk)(x:Int)(w:World)(hm:Zq w am ms)(hb:Zn ms=true):
 Calls Tryz.prog 200 #[.agg #[.slice am ms.length cm,.slice al nl cl],.int .i64 x] w fun e w'=>e=.returned (.tuple #[.int .i64 (plc x ms:Nat),.bool (decide (0<=Zv ms x))])/\Below w.heap.size w w':=by
 have hB:Below w.heap.size w (w.alloc (.cells #[.slice am ms.length cm,.slice al nl cl] 47)):=(Below.refl _ _).alloc (Nat.le_refl _) _
 have HC:=Za (ZjZ am cm ms x _ (hm.next hB) hb)
 have HB:=Za hB
 clear hm hb hB
 generalize decide (0<=Zv ms x)=fb at *
 generalize plc x ms=p at *
 go_enter Tryz.func200,Tryz.ntmps200
 go_wp2_with fail
 refine HC.out.mono ?_
 rintro e w2 ⟨rfl,L2⟩
 have HL2:=Za (Zd HB.out L2)
 clear L2
 go_wp2_with fail
 go_ret2
 exact⟨rfl,HL2.out⟩
def Zeb(l:List Int)(k:Nat):Prop:=(∀j,j<k->1<=nth l j/\nth l j<=1000000)/\∀j,j+1<k->nth l j<nth l (j+1)
def Zdj(l:List Int)(k:Nat):Int:=if k=0 then 1 else nth l (k-1)+1
theorem Zhj{l:List Int}{k:Nat}(h:Zeb l k):1<=Zdj l k/\Zdj l k<=1000001:=by
 unfold Zdj
 by_cases h0:k=0
 · simp [h0]
 · have:=h.1 (k-1) (by omega)
   simp [h0];omega
theorem Zdv(l:List Int)(k:Nat):Zdj l (k+1)=nth l k+1:=by simp [Zdj]
theorem Zhk{l:List Int}{k:Nat}(h:Zeb l k)(h1:Zdj l k<=nth l k)(h2:nth l k<=1000000):Zeb l (k+1):=by
 have hlo:=Zhj h
 refine⟨fun j hj=>?_,fun j hj=>?_⟩
 · rcases Nat.lt_or_ge j k with e | e
   · exact h.1 j e
   · obtain rfl:j=k:=by omega
     exact⟨by omega,h2⟩
 · rcases Nat.lt_or_ge (j+1) k with e | e
   · exact h.2 j e
   · obtain rfl:k=j+1:=by omega
     rw [Zdv] at h1
     omega
def upB(l:List Int):Bool:=Za7 l && decide (∀j,j<l.length->1<=nth l j/\nth l j<=1000000)
theorem Zgz(l:List Int):upB l=true↔Zeb l l.length:=by
 simp only [upB,Bool.and_eq_true,decide_eq_true_eq,Zbe,Zeb]
 exact⟨fun h=>⟨h.2,h.1⟩,fun h=>⟨h.2,h.1⟩⟩
theorem Zll{l:List Int}{k:Nat}(hk:k<l.length)(h:nth l k<Zdj l k\/1000000<nth l k):upB l=false:=by
 rcases e:upB l with _ | _
 · rfl
 · have h':=(Zgz l).1 e
   have h1:=h'.1 k hk
   rcases h with h | h
   · rcases Nat.eq_zero_or_pos k with e0 | e0
     · subst e0
       simp [Zdj] at h
       omega
     · obtain⟨j,rfl⟩:∃j,k=j+1:=⟨k-1,by omega⟩
       rw [Zdv] at h
       have:=h'.2 j hk
       omega
   · omega
def ZgA(ms:List Mk)(ls:List (List Int))(y id:Int):Bool:=decide (0<=Zv ms y) && ZaK (cn ls (Zy ms y)) id
def Zch(ms:List Mk)(ls:List (List Int))(id y:Int):Bool:=decide (y=id) || !ZgA ms ls y id
def ZcP(ms:List Mk)(ls:List (List Int))(id:Int)(l:List Int):Bool:=upB l && !l.any (Zch ms ls id)
theorem Zj0{ms:List Mk}{ls:List (List Int)}(hm:Zn ms=true){i:Nat}(hi:i<ms.length):ZcP ms ls (mid ms i) (cn ls i)=ZbT ms ls i:=by
 rw [Bool.eq_iff_iff,Zb0]
 unfold ZcP
 rw [Bool.and_eq_true,Zgz,Bool.not_eq_true',List.any_eq_false]
 have hlk:∀y,Zch ms ls (mid ms i) y=true↔Zb5 ms ls i y=false:=by
  intro y
  have key:Zb5 ms ls i y=true↔Zch ms ls (mid ms i) y=false:=by
   rw [ZbZ]
   unfold Zch ZgA
   rw [Bool.or_eq_false_iff,decide_eq_false_iff_not,Bool.not_eq_false',Bool.and_eq_true,decide_eq_true_eq]
   constructor
   · rintro⟨a,b,c⟩
     refine⟨fun e=>b ?_,a,c⟩
     rw [e,(Zam hm hi).1]
   · rintro⟨a,b,c⟩
     refine⟨b,fun e=>a ?_,c⟩
     have:=ZQ b
     rw [<-this.2.2]
     congr 1
     omega
  rcases e1:Zch ms ls (mid ms i) y with _ | _ <;> rcases e2:Zb5 ms ls i y with _ | _
  · exact absurd e2 (by rw [key.2 e1];simp)
  · simp
  · simp
  · have:=key.1 e2;rw [e1] at this;cases this
 constructor
 · rintro⟨h1,h2⟩
   refine⟨(Zbe _).2 h1.2,fun k hk=>?_⟩
   rcases e:Zb5 ms ls i (nth (cn ls i) k) with _ | _
   · exact absurd ((hlk _).2 e) (h2 _ ((Z2 _ _).1 (ZcQ hk)))
   · rfl
 · rintro⟨h1,h2⟩
   refine⟨⟨fun j hj=>?_,(Zbe _).1 h1⟩,fun y hy=>?_⟩
   · have h3:=((ZbZ _ _ _ _).1 (h2 j hj)).1
     obtain⟨a,-,c⟩:=ZQ h3
     have:=(ZG _ _).1 (ZM hm a)
     rw [c] at this
     exact⟨this.1,this.2.1⟩
   · obtain⟨k,hk,rfl⟩:=ZeJ hy
     intro hb
     have:=(hlk _).1 hb
     rw [h2 k hk] at this;cases this
theorem Zn6(ao:Option Addr)(cap:Nat)(l:List Int)(w:World)(hv:Zs w ao l)(hn:l.length<=1048576):
 Calls Tryz.prog 225 #[.slice ao l.length cap,.int .i64 1,.int .i64 1000000] w fun e w'=>e=.returned (.bool (upB l))/\w'=w:=by
 go_enter Tryz.func225,Tryz.ntmps225
 go_wp2
 go_loop [1,11] (fun lo i=>∃k:Nat,k<=l.length/\i=.int .i64 k/\lo=.int .i64 (Zdj l k)/\Zeb l k) (fun _ i=>l.length-(intOf i).toNat)
 case atStart=>exact⟨0,Nat.zero_le _,rfl,rfl,fun j hj=>by omega,fun j hj=>by omega⟩
 case round=>
  obtain⟨k,hk,rfl,rfl,hkeep⟩:=hrel
  have HK:=Za hkeep
  have hlo:=Zhj hkeep
  clear hkeep
  obtain⟨lo,hlow⟩:∃lo,Zdj l k=lo:=⟨_,rfl⟩
  rw [hlow] at hlo
  rw [hlow]
  have HLO:=Za hlow
  clear hlow
  by_cases hlt:k<l.length
  · obtain⟨b,off,rfl,hb,hs⟩:∃b off,ao=some ⟨b,off,none⟩/\b<w.heap.size/\Seg w b off l:=by
     rcases hv with h | h
     · subst h;simp at hlt
     · exact h
    have hc:=hs k hlt
    by_cases ha:nth l k<lo
    · go_wp2
      go_ret
      exact⟨Zg (Eq.symm (Zll hlt (Or.inl (by rw [HLO.out];exact ha)))),rfl⟩
    · by_cases hb:1000000<nth l k
      · go_wp2
        go_ret
        exact⟨Zg (Eq.symm (Zll hlt (Or.inr hb))),rfl⟩
      · go_wp2
        go_round
        case rel=>exact⟨k+1,by omega,by go_num,by rw [Zdv],Zhk HK.out (by rw [HLO.out];omega) (by omega)⟩
        case measure=>simp [intOf];omega
  · go_wp2
    go_ret
    obtain rfl:k=l.length:=by omega
    exact⟨Zg (Eq.symm ((Zgz l).2 HK.out)),rfl⟩
theorem iHasW(am al:Option Addr)(cm cl:Nat)(ms:List Mk)(ls:List (List Int))(y id:Int)(w:World)(hm:Zq w am ms)(hl:Z8 w al ls)(hb:Zn ms=true)(hll:ls.length=ms.length)(hcs:ZaZ ls):
 Calls Tryz.prog 249 #[.agg #[.slice am ms.length cm,.slice al ls.length cl],.int .i64 y,.int .i64 id] w fun e w'=>e=.returned (.bool (ZgA ms ls y id))/\Below w.heap.size w w':=by
 obtain⟨W,hW⟩:∃W,w.alloc (.cells #[.slice am ms.length cm,.slice al ls.length cl] 47)=W:=⟨_,rfl⟩
 have hB:Below w.heap.size w W:=by rw [<-hW];exact (Below.refl _ _).alloc (Nat.le_refl _) _
 have hI:Zac W w.heap.size am cm ms al cl ls:=by rw [<-hW];exact Zac.box hm hl
 have HP:=Za (Zis am al cm ls.length cl ms y W hI.mv hb)
 have HB:=Za hB
 have HI:=Za hI
 have k0:=hI.c0
 have k1:=hI.c1
 have HMB:=Za hb
 have hlen:=ZA hb
 clear hm hl hB hI
 by_cases hf:0<=Zv ms y
 · obtain⟨za,zb,zc⟩:=ZQ hf
   have hpi:=Zgy hb hf
   have HV:Hid (ZgA ms ls y id=ZaK (cn ls (Zy ms y)) id):=by show _=_;simp [ZgA,hf]
   rw [HV.out]
   rw [hpi,decide_eq_true hf] at HP
   have hjl:Zy ms y<ls.length:=by omega
   clear HV hpi zb zc hf hb za hll
   generalize Zy ms y=j at *
   go_enter Tryz.func249,Tryz.ntmps249
   go_wp2_with fail
   refine HP.out.mono ?_
   rintro e w2 ⟨rfl,L2⟩
   have hI2:=HI.out.below L2
   have HL2:=Za (Zd HB.out L2)
   clear L2 HI k0 k1 hW
   have k1:=hI2.c1
   obtain⟨b,off,rfl,hbr,hs⟩:=hI2.cv.seg (by omega)
   obtain⟨a,c,c1,hvw⟩:=hs j hjl
   have HC:=Za (pHas a c (cn ls j) id w2 hvw (by have:=hcs.2 j;omega))
   have hj0:(0:Int)<=(j:Int):=Int.natCast_nonneg _
   have hj1:(j:Int)<(ls.length:Int):=by omega
   clear hI2 hs hvw
   go_wp2_with fail
   refine HC.out.mono ?_
   rintro e w3 ⟨rfl,rfl⟩
   go_wp2_with fail
   go_ret
   exact⟨rfl,HL2.out⟩
 · have HV:Hid (ZgA ms ls y id=false):=by show _=_;simp [ZgA,hf]
   rw [HV.out]
   rw [decide_eq_false hf] at HP
   clear HV hf hb hll
   generalize plc y ms=j at *
   go_enter Tryz.func249,Tryz.ntmps249
   go_wp2_with fail
   refine HP.out.mono ?_
   rintro e w2 ⟨rfl,L2⟩
   have HL2:=Za (Zd HB.out L2)
   clear L2 HI k0 k1 hW
   go_wp2_with fail
   go_ret
   exact⟨rfl,HL2.out⟩
theorem iBadW(A B:Nat)(am al:Option Addr)(cm cl:Nat)(ms:List Mk)(ls:List (List Int))(y id:Int)(w:World)(hA:w.cell? ⟨A,0,none⟩=some (.int .i64 id))(hI:Zac w B am cm ms al cl ls)(hb:Zn ms=true)(hll:ls.length=ms.length)(hcs:ZaZ ls):
 Calls Tryz.prog 248 #[.int .i64 y,.pointer (some ⟨A,0,none⟩),.pointer (some ⟨B,0,none⟩)] w fun e w'=>e=.returned (.bool (Zch ms ls id y))/\Below w.heap.size w w':=by
 have HC:=Za (iHasW am al cm cl ms ls y id w hI.mv hI.cv hb hll hcs)
 have k0:=hI.c0
 have k1:=hI.c1
 clear hI hll
 by_cases he:y=id
 · have HV:Hid (Zch ms ls id y=true):=by show _=_;simp [Zch,he]
   rw [HV.out]
   have heb:(y ==id)=true:=by simp [he]
   clear HV he HC
   go_enter Tryz.func248,Tryz.ntmps248
   go_wp2_with fail
   go_ret
   exact⟨rfl,Below.refl _ _⟩
 · have HV:Hid (Zch ms ls id y=!ZgA ms ls y id):=by show _=_;simp [Zch,he]
   rw [HV.out]
   have heb:(y ==id)=false:=by simp [he]
   clear HV he
   generalize ZgA ms ls y id=r at *
   go_enter Tryz.func248,Tryz.ntmps248
   go_wp2_with fail
   refine HC.out.mono ?_
   rintro e w2 ⟨rfl,L2⟩
   have HL2:=Za L2
   clear L2 k0 k1 hA
   go_wp2_with fail
   go_ret
   exact⟨rfl,HL2.out⟩
theorem Zlm{ms:List Mk}{ls:List (List Int)}{id:Int}{l:List Int}{k:Nat}(hk:k<l.length)(h:Zch ms ls id (nth l k)=true):l.any (Zch ms ls id)=true:=
 List.any_eq_true.2 ⟨_,(Z2 _ _).1 (ZcQ hk),h⟩
theorem ZmL{ms:List Mk}{ls:List (List Int)}{id:Int}{l:List Int}(h:∀j,j<l.length->Zch ms ls id (nth l j)=false):l.any (Zch ms ls id)=false:=by
 rw [List.any_eq_false]
 intro y hy
 obtain⟨k,hk,rfl⟩:=ZeJ hy
 rw [h k hk];simp
theorem ZmM(A B:Nat)(am al ao:Option Addr)(cm cl cap:Nat)(ms:List Mk)(ls:List (List Int))(id:Int)(l:List Int)(w:World)(hA:w.cell? ⟨A,0,none⟩=some (.int .i64 id))(hI:Zac w B am cm ms al cl ls)(hb:Zn ms=true)(hll:ls.length=ms.length)(hcs:ZaZ ls)(hv:Zs w ao l)(hn:l.length<=1048576):
 Calls Tryz.prog 284 #[.slice ao l.length cap,.func (.func 248) #[] #[.pointer (some ⟨A,0,none⟩),.pointer (some ⟨B,0,none⟩)]] w fun e w'=>(∃r:Int,e=.returned (.int .i64 r)/\decide (0<=r)=l.any (Zch ms ls id))/\Below w.heap.size w w':=by
 have hAl:A<w.heap.size:=Zje hA
 have HF:Hid (∀W y,Below w.heap.size w W->Calls Tryz.prog 248 #[.int .i64 y,.pointer (some ⟨A,0,none⟩),.pointer (some ⟨B,0,none⟩)] W fun e w'=>e=.returned (.bool (Zch ms ls id y))/\Below W.heap.size W w'):=fun W y L=>
  iBadW A B am al cm cl ms ls y id W ((L.cell (p:=⟨A,0,none⟩) hAl).trans hA) (hI.below L) hb hll hcs
 have HV:=Za hv
 clear hA hI hb hll hcs hv
 go_enter Tryz.func284,Tryz.ntmps284
 go_wp2_with fail
 go_loopw [8] (fun i wr=>∃k:Nat,k<=l.length/\i=.int .i64 k/\(∀j,j<k->Zch ms ls id (nth l j)=false)/\Below w.heap.size w wr) (fun i _=>l.length-(intOf i).toNat)
 case atStart=>exact⟨0,Nat.zero_le _,rfl,fun j hj=>by omega,Below.refl _ _⟩
 case round=>
  obtain⟨k,hk,rfl,hall,L⟩:=hrel
  have HA:=Za hall
  have HL:=Za L
  have hvr:=HV.out.next L
  clear hall L
  by_cases hlt:k<l.length
  · obtain⟨b,off,rfl,hb,hs⟩:∃b off,ao=some ⟨b,off,none⟩/\b<wr.heap.size/\Seg wr b off l:=by
     rcases hvr with h | h
     · subst h;simp at hlt
     · exact h
    have hc:=hs k hlt
    have HN:=Za (HF.out wr (nth l k) HL.out)
    clear hs hvr
    rcases he:Zch ms ls id (nth l k) with _ | _
    · rw [he] at HN
      have HE:=Za he
      clear he
      go_wp2_with fail
      refine HN.out.mono ?_
      rintro e w2 ⟨rfl,L2⟩
      have HL2:=Za (Zd HL.out L2)
      clear L2
      go_wp2_with fail
      go_roundw
      case rel=>exact⟨k+1,by omega,by go_num,fun j hj=>by
       rcases Nat.lt_or_ge j k with h | h
       · exact HA.out j h
       · rw [show j=k by omega];exact HE.out,HL2.out⟩
      case measure=>simp [intOf];omega
    · have HX:=Za (Zlm hlt he)
      rw [he] at HN
      clear he
      go_wp2_with fail
      refine HN.out.mono ?_
      rintro e w2 ⟨rfl,L2⟩
      have HL2:=Za (Zd HL.out L2)
      clear L2
      go_wp2_with fail
      go_ret
      exact⟨⟨(k:Int),rfl,by rw [HX.out];simp⟩,HL2.out⟩
  · go_wp2_with fail
    go_ret
    obtain rfl:k=l.length:=by omega
    exact⟨⟨-1,rfl,by rw [ZmL HA.out];rfl⟩,HL.out⟩
theorem Zln(A B:Nat)(am al ao:Option Addr)(cm cl cap:Nat)(ms:List Mk)(ls:List (List Int))(id:Int)(l:List Int)(w:World)(hA:w.cell? ⟨A,0,none⟩=some (.int .i64 id))(hI:Zac w B am cm ms al cl ls)(hb:Zn ms=true)(hll:ls.length=ms.length)(hcs:ZaZ ls)(hv:Zs w ao l)(hn:l.length<=1048576):
 Calls Tryz.prog 247 #[.slice ao l.length cap,.func (.func 248) #[] #[.pointer (some ⟨A,0,none⟩),.pointer (some ⟨B,0,none⟩)]] w fun e w'=>e=.returned (.bool (l.any (Zch ms ls id)))/\Below w.heap.size w w':=by
 have HI:=Za (ZmM A B am al ao cm cl cap ms ls id l w hA hI hb hll hcs hv hn)
 clear hv hI hA
 go_enter Tryz.func247,Tryz.ntmps247
 go_wp2_with fail
 refine HI.out.mono ?_
 rintro e w2 ⟨⟨r,rfl,hr⟩,L2⟩
 have HL2:=Za L2
 clear L2
 go_wp2_with fail
 go_ret
 exact⟨Zg (by rw [<-hr]),HL2.out⟩
theorem Zn7(am al ao:Option Addr)(cm cl cap:Nat)(ms:List Mk)(ls:List (List Int))(id:Int)(l:List Int)(w:World)(hm:Zq w am ms)(hl:Z8 w al ls)(hb:Zn ms=true)(hll:ls.length=ms.length)(hcs:ZaZ ls)(hv:Zs w ao l)(hn:l.length<=1048576):
 Calls Tryz.prog 198 #[.agg #[.slice am ms.length cm,.slice al ls.length cl],.int .i64 id,.slice ao l.length cap] w fun e w'=>e=.returned (.bool (ZcP ms ls id l))/\Below w.heap.size w w':=by
 obtain⟨W1,hW1⟩:∃W,w.alloc (.cells #[.slice am ms.length cm,.slice al ls.length cl] 47)=W:=⟨_,rfl⟩
 have hB1:Below w.heap.size w W1:=by rw [<-hW1];exact (Below.refl _ _).alloc (Nat.le_refl _) _
 have hI1:Zac W1 w.heap.size am cm ms al cl ls:=by rw [<-hW1];exact Zac.box hm hl
 obtain⟨W,hW⟩:∃W,W1.alloc (.cells #[.int .i64 id] 2)=W:=⟨_,rfl⟩
 have hB2:Below W1.heap.size W1 W:=by rw [<-hW];exact (Below.refl _ _).alloc (Nat.le_refl _) _
 have hA:W.cell? ⟨W1.heap.size,0,none⟩=some (.int .i64 id):=by rw [<-hW];simp
 have HB:=Za (Zd hB1 hB2)
 have HR:=Za (Zn6 ao cap l W (hv.next HB.out) hn)
 have HC:=Za (Zln W1.heap.size w.heap.size am al ao cm cl cap ms ls id l W hA (hI1.below hB2) hb hll hcs (hv.next HB.out) hn)
 clear hm hl hB1 hI1 hB2 hA hv hb hcs hll
 rcases hu:upB l with _ | _
 · have HV:Hid (ZcP ms ls id l=false):=by show _=_;simp [ZcP,hu]
   rw [HV.out]
   rw [hu] at HR
   clear HV HC hu
   go_enter Tryz.func198,Tryz.ntmps198
   go_wp2_with fail
   refine HR.out.mono ?_
   rintro e w2 ⟨rfl,rfl⟩
   go_wp2_with fail
   go_ret
   exact⟨rfl,HB.out⟩
 · have HV:Hid (ZcP ms ls id l=!l.any (Zch ms ls id)):=by show _=_;simp [ZcP,hu]
   rw [HV.out]
   rw [hu] at HR
   clear HV hu
   generalize l.any (Zch ms ls id)=r at *
   go_enter Tryz.func198,Tryz.ntmps198
   go_wp2_with fail
   refine HR.out.mono ?_
   rintro e w2 ⟨rfl,rfl⟩
   go_wp2_with fail
   refine HC.out.mono ?_
   rintro e w2 ⟨rfl,L2⟩
   have HL2:=Za (Zd HB.out L2)
   clear L2
   go_wp2_with fail
   go_ret
   exact⟨rfl,HL2.out⟩
theorem Zj1{ms:List Mk}{ls:List (List Int)}(hm:Zn ms=true)(hl:ls.length=ms.length)(h:∀j,j<ms.length->ZbT ms ls j=true):Zab ms ls=true:=
 (ZbJ ms ls).2 ⟨hm,hl,fun i hi=>h i (by omega)⟩
theorem Zhl:Zn0:=by
 intro am cm ms al cl ls w hm hl hsm hcs hcm hcl
 obtain⟨W,hW⟩:∃W,w.alloc (.cells #[.slice am ms.length cm,.slice al ls.length cl] 47)=W:=⟨_,rfl⟩
 have hB:Below w.heap.size w W:=by rw [<-hW];exact (Below.refl _ _).alloc (Nat.le_refl _) _
 have hI:Zac W w.heap.size am cm ms al cl ls:=by rw [<-hW];exact Zac.box hm hl
 have HC:=Za (ZgB am cm ms W hI.mv hsm)
 have HB:=Za hB
 have HI:=Za hI
 have k0:=hI.c0
 have k1:=hI.c1
 have hml:=hsm.1
 have hll:=hcs.1
 have HS:=Za hcs
 clear hm hl hB hI hsm hcs
 rcases hmb:Zn ms with _ | _
 · have HV:Hid (Zab ms ls=false):=by show _=_;simp [Zab,hmb]
   rw [hmb] at HC
   rw [HV.out]
   go_enter Tryz.func112,Tryz.ntmps112
   go_wp2_with fail
   refine HC.out.mono ?_
   rintro e w1 ⟨rfl,L1⟩
   have HL1:=Za (Zd HB.out L1)
   clear L1
   go_wp2_with fail
   go_ret
   exact⟨rfl,HL1.out⟩
 rw [hmb] at HC
 by_cases hlen:ls.length=ms.length
 · have hlb:((ls.length:Int) !=(ms.length:Int))=false:=by simp [hlen]
   have HLE:=Za hlen
   have HMB:=Za hmb
   have HAT:Hid (∀i,i<ms.length->ZcP ms ls (mid ms i) (cn ls i)=ZbT ms ls i):=fun i hi=>Zj0 hmb hi
   have hlt2:∀i:Nat,i<ms.length->i<ls.length:=fun i hi=>by omega
   have HLT:=Za hlt2
   clear hlen hmb hlt2
   go_enter Tryz.func112,Tryz.ntmps112
   go_wp2_with fail
   refine HC.out.mono ?_
   rintro e w1 ⟨rfl,L1⟩
   have hI1:=HI.out.below L1
   have HI1:=Za hI1
   have HL1:=Za (Zd HB.out L1)
   clear L1 k0 k1 HI HC hW
   have k0:=hI1.c0
   have k1:=hI1.c1
   have hBl:=hI1.lt
   clear hI1
   generalize hXX:w.heap.size=X at *
   have HX:=Za hXX
   clear hXX
   go_wp2_with fail
   go_loopw [21] (fun i wr=>∃k:Nat,k<=ms.length/\i=.int .i64 k/\(∀j,j<k->ZbT ms ls j=true)/\Below w1.heap.size w1 wr) (fun i _=>ms.length-(intOf i).toNat)
   case atStart=>exact⟨0,Nat.zero_le _,rfl,fun j hj=>by omega,Below.refl _ _⟩
   case round=>
    obtain⟨k,hk,rfl,hall,L⟩:=hrel
    have HA:=Za hall
    have HL:=Za L
    have hIr:=HI1.out.below L
    clear hall L k0 k1
    by_cases hlt:k<ms.length
    · have hkl:=HLT.out k hlt
      have HAK:=Za (HAT.out k hlt)
      have HIr:=Za hIr
      obtain⟨b,off,rfl,hbr,hs⟩:=Zbi.seg hIr.mv (by omega)
      obtain⟨c0,ao,cc,c1,-⟩:=hs.at (i:=k) hlt
      obtain⟨b2,off2,rfl,hbr2,hs2⟩:=hIr.cv.seg (by omega)
      obtain⟨a,c,d0,hvw⟩:=hs2 k hkl
      have k0:=hIr.c0
      have k1:=hIr.c1
      have hXl:=hIr.lt
      have hk0:(0:Int)<=(k:Int):=Int.natCast_nonneg _
      have hk1:(k:Int)<(ms.length:Int):=by omega
      have hk2:(k:Int)<(ls.length:Int):=by omega
      have HVW:=Za hvw
      have hcl2:=HS.out.2 k
      have HT:Hid (∀W',Below wr.heap.size wr W'->Calls Tryz.prog 198 #[.agg #[.slice (some ⟨b,off,none⟩) ms.length cm,.slice (some ⟨b2,off2,none⟩) ls.length cl],.int .i64 (mid ms k),.slice a (cn ls k).length c] W' fun e w'=>e=.returned (.bool (ZbT ms ls k))/\Below W'.heap.size W' w'):=fun W' L'=>by
       rw [<-HAK.out]
       exact Zn7 _ _ _ cm cl c ms ls (mid ms k) (cn ls k) W' (HIr.out.mv.next L') (HIr.out.cv.next L') HMB.out HLE.out HS.out (HVW.out.next L') hcl2
      obtain⟨V,hV⟩:∃V,wr.alloc (.cells #[.int .i64 (mid ms k),.slice ao (mat ms k).length cc] 29)=V:=⟨_,rfl⟩
      have HVB:Hid (Below wr.heap.size wr V):=by show Below _ _ _;rw [<-hV];exact (Below.refl _ _).alloc (Nat.le_refl _) _
      have hm0:V.cell? ⟨wr.heap.size,0,none⟩=some (.int .i64 (mid ms k)):=by rw [<-hV];simp
      have HK:Hid (∀w',Below V.heap.size V w'->w'.cell? ⟨X,0,none⟩=some (.slice (some ⟨b,off,none⟩) ms.length cm)/\w'.cell? ⟨X,1,none⟩=some (.slice (some ⟨b2,off2,none⟩) ls.length cl)/\w'.cell? ⟨wr.heap.size,0,none⟩=some (.int .i64 (mid ms k))/\w'.cell? ⟨b2,off2+k,none⟩=some (.slice a (cn ls k).length c)):=fun w' L=>by
       have L':=Zd HVB.out L
       have hlt':wr.heap.size<V.heap.size:=by rw [<-hV];simp
       exact⟨(L'.cell (p:=⟨X,0,none⟩) hXl).trans k0,(L'.cell (p:=⟨X,1,none⟩) hXl).trans k1,(L.cell (p:=⟨wr.heap.size,0,none⟩) hlt').trans hm0,(L'.cell (p:=⟨b2,off2+k,none⟩) hbr2).trans d0⟩
      clear hIr hs hs2 hvw
      generalize mid ms k=y at *
      generalize (mat ms k).length=yl at *
      generalize (cn ls k).length=nl at *
      go_wp2_with fail
      obtain⟨Y,hY⟩:∃Y,Y=wr.heap.size:=⟨_,rfl⟩
      rw [<-hY] at HK hm0 ⊢
      have HKV:=HK.out V (Below.refl _ _)
      obtain⟨z0,z1,z2,z3⟩:=HKV
      clear hV k0 k1 c0 c1 d0 hm0 hY
      go_region_held3 (fun w'=>w'.cell? ⟨X,0,none⟩=some (.slice (some ⟨b,off,none⟩) ms.length cm)/\w'.cell? ⟨X,1,none⟩=some (.slice (some ⟨b2,off2,none⟩) ls.length cl)/\w'.cell? ⟨Y,0,none⟩=some (.int .i64 y)/\w'.cell? ⟨b2,off2+k,none⟩=some (.slice a nl c))
       (first
         | go_keep
         | exact HK.out _ (Below.trans ((Below.refl V.heap.size V).drew) L2))
       (first | (go_at_call 198;refine (HT.out _ (Below.drew HVB.out)).mono ?_;rintro e w2 ⟨rfl,L2⟩))
      have HL3:Hid (Below w1.heap.size w1 w2):=Zd HL.out (Zd HVB.out (Below.trans ((Below.refl V.heap.size V).drew) L2))
      clear L2 HT HK z0 z1 z2 z3
      simp only [Exit.then]
      rcases hat:ZbT ms ls k with _ | _
      · have HV:=Za (ZdL hkl hat)
        clear hat
        go_wp2_with fail
        go_ret
        have hX:=HX.out
        subst hX
        exact⟨Zg HV.out.symm,Zd HL1.out HL3.out⟩
      · have HE:=Za hat
        clear hat
        go_wp2_with fail
        go_roundw
        case rel=>exact⟨k+1,by omega,by go_num,fun j hj=>by
         rcases Nat.lt_or_ge j k with h | h
         · exact HA.out j h
         · rw [show j=k by omega];exact HE.out,HL3.out⟩
        case measure=>simp [intOf];omega
    · obtain rfl:k=ms.length:=by omega
      have HV:=Za (Zj1 HMB.out HLE.out HA.out)
      go_wp2_with fail
      go_ret
      have hX:=HX.out
      subst hX
      exact⟨Zg HV.out.symm,Zd HL1.out HL.out⟩
 · have hlb:((ls.length:Int) !=(ms.length:Int))=true:=by simp;omega
   have HV:Hid (Zab ms ls=false):=by show _=_;simp [Zab,hlen]
   rw [HV.out]
   clear hlen
   go_enter Tryz.func112,Tryz.ntmps112
   go_wp2_with fail
   refine HC.out.mono ?_
   rintro e w1 ⟨rfl,L1⟩
   have hI1:=HI.out.below L1
   have HL1:=Za (Zd HB.out L1)
   clear L1 k0 k1 HI
   have k0:=hI1.c0
   have k1:=hI1.c1
   go_wp2_with fail
   go_ret
   exact⟨rfl,HL1.out⟩
end Go.Proofs.YtaaagmgglolibaaGreat
