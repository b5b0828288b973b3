import Derived.Test.YtilkaeclgmcolaaGreatHSpecZz
import Derived.Test.YtilkaeclgmcolaaGreatArgsZz
import Derived.Test.YtilkaeclgmcolaaGreatMathZz
import Derived.Deep.RegionHeld3
import Derived.BigQuiet
import Derived.Test.YtilkaeclgmcolaaGreatFeHelpZz
import Derived.Test.YtilkaeclgmcolaaGreatSCellsZz
set_option maxRecDepth 100000
set_option maxHeartbeats 2000000
namespace Go.Proofs.YtilkaeclgmcolaaGreat
open Go Go.RowKit
def plc(x:Int):List Mk->Nat
 | []=>0
 | m::l=>if m.1<x then plc x l+1 else 0
theorem Zpc(x:Int)(l:List Mk):plc x l<=l.length:=by
 induction l with
 | nil=>simp [plc]
 | cons m l ih=>simp only [plc];split <;> simp <;> omega
theorem Zj8(x:Int)(l:List Mk)(i:Nat)(hi:i<plc x l):mid l i<x:=by
 induction l generalizing i with
 | nil=>simp [plc] at hi
 | cons m l ih=>
   simp only [plc] at hi
   by_cases hm:m.1<x
   · rw [if_pos hm] at hi
     match i with
     | 0=>simpa [mid] using hm
     | i+1=>simpa [mid] using ih i (by omega)
   · simp [hm] at hi
theorem Zml(x:Int)(l:List Mk)(h:plc x l<l.length):x<=mid l (plc x l):=by
 induction l with
 | nil=>simp at h
 | cons m l ih=>
   simp only [plc] at h ⊢
   by_cases hm:m.1<x
   · rw [if_pos hm] at h ⊢
     simpa [mid] using ih (by simpa using h)
   · rw [if_neg hm]
     simpa [mid] using hm
theorem Zmm{ms:List Mk}(h:Zt ms=true)(x:Int)(i:Nat)(hi:plc x ms<=i)(hl:i<ms.length):x<=mid ms i:=by
 have a:=Zml x ms (by omega)
 rcases Nat.lt_or_ge (plc x ms) i with c | c
 · have:=Zbz h c hl;omega
 · rw [show i=plc x ms by omega];exact a
theorem ZhU{ms:List Mk}(h:Zt ms=true)(x:Int):(decide (plc x ms<ms.length) && decide (mid ms (plc x ms)=x))=decide (0<=ZC ms x):=by
 by_cases hf:0<=ZC ms x
 · obtain⟨a,b,c⟩:=Zab hf
   have f:plc x ms<=ZD ms x:=by
    rcases Nat.lt_or_ge (ZD ms x) (plc x ms) with e | e
    · have:=Zj8 x ms _ e;omega
    · exact e
   have g:=Zml x ms (by omega)
   have d:plc x ms=ZD ms x:=by
    rcases Nat.lt_or_ge (plc x ms) (ZD ms x) with e | e
    · have:=Zbz h e a;omega
    · omega
   rw [d,c]
   simp [a,hf]
 · rw [decide_eq_false hf,Bool.and_eq_false_iff]
   by_cases hl:plc x ms<ms.length
   · right
     refine decide_eq_false fun e=>hf ?_
     rw [<-e,(ZaF h hl).1];omega
   · left;exact decide_eq_false hl
theorem Zg4{ms:List Mk}(h:Zt ms=true){x:Int}(hf:0<=ZC ms x):plc x ms=ZD ms x:=by
 have e:=ZhU h x
 rw [decide_eq_true hf] at e
 simp at e
 obtain⟨a,b,c⟩:=Zab hf
 exact Zfz h e.1 a (by omega)
def ZbL(x y:Int):Int:=if x<y then -1 else if y<x then 1 else 0
theorem ZhK(x y:Int):decide (ZbL x y<0)=decide (x<y):=by
 unfold ZbL
 by_cases h1:x<y
 · simp [h1]
 · by_cases h2:y<x <;> simp [h1,h2]
theorem Zgn(x y:Int):(ZbL x y ==0)=decide (x=y):=by
 unfold ZbL
 by_cases h1:x<y
 · simp [h1];omega
 · by_cases h2:y<x
   · simp [h1,h2];omega
   · simp [h1,h2];omega
theorem ZhJ(x y:Int)(w:World):
 Calls Tryz.prog 131 #[.int .i64 x,.int .i64 y] w fun e w'=>e=.returned (.int .i64 (ZbL x y))/\w'=w:=by
 have b:(x !=x)=false:=by simp
 have c:(y !=y)=false:=by simp
 by_cases h1:x<y
 · have a:Hid (ZbL x y= -1):=by show ZbL x y= -1;simp [ZbL,h1]
   go_enter Tryz.func131,Tryz.ntmps131
   go_wp2
   go_ret
   exact⟨ZK a.out.symm,rfl⟩
 · by_cases h2:y<x
   · have a:Hid (ZbL x y=1):=by show ZbL x y=1;simp [ZbL,h1,h2]
     go_enter Tryz.func131,Tryz.ntmps131
     go_wp2
     go_ret
     exact⟨ZK a.out.symm,rfl⟩
   · have a:Hid (ZbL x y=0):=by show ZbL x y=0;simp [ZbL,h1,h2]
     go_enter Tryz.func131,Tryz.ntmps131
     go_wp2
     go_ret
     exact⟨ZK a.out.symm,rfl⟩
theorem Zj9(x y:Int)(a1 a2:Option Addr)(n1 c1 n2 c2:Nat)(w:World):
 Calls Tryz.prog 183 #[.agg #[.int .i64 x,.slice a1 n1 c1],.agg #[.int .i64 y,.slice a2 n2 c2]] w fun e w'=>e=.returned (.int .i64 (ZbL x y))/\Below w.heap.size w w':=by
 have a:Below w.heap.size w ((w.alloc (.cells #[.int .i64 x,.slice a1 n1 c1] 161)).alloc (.cells #[.int .i64 y,.slice a2 n2 c2] 161)):=((Below.refl _ _).alloc (Nat.le_refl _) _).alloc (by simp) _
 have b:=Za a
 clear a
 go_enter Tryz.func183,Tryz.ntmps183
 go_wp2_with (go_at_call 131;refine (ZhJ _ _ _).mono ?_;rintro e w' ⟨rfl,rfl⟩)
 go_ret
 exact⟨rfl,b.out⟩
theorem ZkI(am:Option Addr)(cm:Nat)(ms:List Mk)(x:Int)(w:World)(hm:Zo w am ms)(hb:Zt ms=true):
 Calls Tryz.prog 182 #[.slice am ms.length cm,.agg #[.int .i64 x,.slice none 0 0],.func (.func 183) #[] #[]] w fun e w'=>e=.returned (.tuple #[.int .i64 (plc x ms:Nat),.bool (decide (0<=ZC ms x))])/\Below w.heap.size w w':=by
 obtain⟨W,J⟩:∃W,w.alloc (.cells #[.int .i64 x,.slice none 0 0] 161)=W:=⟨_,rfl⟩
 obtain⟨X,C⟩:∃X,X=w.heap.size:=⟨_,rfl⟩
 have z:X<W.heap.size:=by rw [<-J,C];simp
 have P:W.cell? ⟨X,0,none⟩=some (.int .i64 x):=by rw [<-J,C];simp
 have U:W.cell? ⟨X,1,none⟩=some (.slice none 0 0):=by rw [<-J,C];simp
 have Z:Hid (Below w.heap.size w W):=by show Below w.heap.size w W;rw [<-J];exact (Below.refl _ _).alloc (Nat.le_refl _) _
 have HM:Hid (Zo W am ms):=hm.next Z.out
 have a5:=ZF hb
 have t:=Za (Zj8 x ms)
 have r:=Za (Zmm hb x)
 have O:=Za (ZhU hb x)
 have a3:=Zpc x ms
 clear hm hb
 generalize plc x ms=p at *
 generalize decide (0<=ZC ms x)=fb at *
 go_enter Tryz.func182,Tryz.ntmps182
 go_wp2_with fail
 rw [<-C]
 clear J C
 go_loopw [9,10] (fun i j wr=>∃u v:Nat,u<=p/\p<=v/\v<=ms.length/\i=.int .i64 u/\j=.int .i64 v/\Below W.heap.size W wr) (fun i j _=>(intOf j).toNat-(intOf i).toNat)
 case atStart=>exact⟨0,ms.length,Nat.zero_le _,a3,Nat.le_refl _,rfl,rfl,Below.refl _ _⟩
 case round=>
  obtain⟨u,v,R,a0,hv,rfl,rfl,L⟩:=hrel
  have M:wr.cell? ⟨X,0,none⟩=some (.int .i64 x):=(L.cell (p:=⟨X,0,none⟩) z).trans P
  have N:wr.cell? ⟨X,1,none⟩=some (.slice none 0 0):=(L.cell (p:=⟨X,1,none⟩) z).trans U
  have k:X<wr.heap.size:=Nat.lt_of_lt_of_le z L.size
  have S:=Za L
  have d:=HM.out.next L
  clear L
  by_cases hlt:u<v
  · have a8:IntKind.u64.wrap ((u:Int)+(v:Int))=(u:Int)+(v:Int):=by rw [IntKind.wrap_u64];omega
    obtain⟨m,hm⟩:∃m:Nat,m=(u+v) / 2:=⟨_,rfl⟩
    have H:((u:Int)+(v:Int)) / 2=(m:Int):=by omega
    have G:u<=m/\m<v:=by omega
    obtain⟨b,a,rfl,c,K⟩:=ZaV.seg d (by omega)
    obtain⟨c0,s,o,c1,-⟩:=K.at (i:=m) (by omega)
    have a1:=Za H
    have q:=Za G
    have a2:=n0Z m
    have E:(m:Int)<(ms.length:Int):=by omega
    have F:Hid (∀g,Calls Tryz.prog 183 #[.agg #[.int .i64 (mid ms m),.slice s (mat ms m).length o],.agg #[.int .i64 x,.slice none 0 0]] g fun e w'=>e=.returned (.int .i64 (ZbL (mid ms m) x))/\Below g.heap.size g w'):=fun g=>Zj9 _ _ _ _ _ _ _ _ g
    have D:=ZhK (mid ms m) x
    have n:m<p->mid ms m<x:=t.out m
    have f:p<=m->x<=mid ms m:=fun h=>r.out m h (by omega)
    have HR:Hid ((mid ms m<x->m<p)/\(x<=mid ms m->p<=m)):=⟨fun h=>by
     rcases Nat.lt_or_ge m p with e | e
     · exact e
     · have:=f e;omega,fun h=>by
     rcases Nat.lt_or_ge m p with e | e
     · have:=n e;omega
     · exact e⟩
    clear H hm G K d n f
    generalize mid ms m=y at *
    generalize (mat ms m).length=yl at *
    generalize ZbL y x=cv at *
    go_wp2_with fail
    rw [a1.out]
    have I:Hid (∀w',Below wr.heap.size wr w'->w'.cell? ⟨b,a+m*2,none⟩=some (.int .i64 y)/\w'.cell? ⟨b,a+m*2+1,none⟩=some (.slice s yl o)/\w'.cell? ⟨X,0,none⟩=some (.int .i64 x)/\w'.cell? ⟨X,1,none⟩=some (.slice none 0 0)):=fun w' L=>⟨(L.cell (p:=⟨b,a+m*2,none⟩) c).trans c0,(L.cell (p:=⟨b,a+m*2+1,none⟩) c).trans c1,(L.cell (p:=⟨X,0,none⟩) k).trans M,(L.cell (p:=⟨X,1,none⟩) k).trans N⟩
    go_region_held3 (fun w'=>w'.cell? ⟨b,a+m*2,none⟩=some (.int .i64 y)/\w'.cell? ⟨b,a+m*2+1,none⟩=some (.slice s yl o)/\w'.cell? ⟨X,0,none⟩=some (.int .i64 x)/\w'.cell? ⟨X,1,none⟩=some (.slice none 0 0))
     (first
       | go_keep
       | exact I.out _ (Below.trans ((Below.refl wr.heap.size wr).drew) A))
     (first | (go_at_call 183;refine (F.out _).mono ?_;rintro e T ⟨rfl,A⟩))
    have l:Hid (Below W.heap.size W T):=Zb S.out (Below.trans ((Below.refl wr.heap.size wr).drew) A)
    clear A F I M N c0 c1
    simp only [Exit.then]
    by_cases hyx:y<x
    · have Y:cv<0:=by simpa [hyx] using D
      go_wp2_with fail
      go_roundw
      case rel=>exact⟨m+1,v,HR.out.1 hyx,a0,hv,by go_num,rfl,l.out⟩
      case measure=>have:=q.out;simp [intOf];omega
    · have Y:¬cv<0:=by simpa [hyx] using D
      go_wp2_with fail
      go_roundw
      case rel=>exact⟨u,m,R,HR.out.2 (by omega),by have:=q.out;omega,rfl,rfl,l.out⟩
      case measure=>have:=q.out;simp [intOf];omega
  · obtain rfl:u=p:=by omega
    by_cases hp:u<ms.length
    · obtain⟨b,a,rfl,c,K⟩:=ZaV.seg d (by omega)
      obtain⟨c0,s,o,c1,-⟩:=K.at (i:=u) hp
      have a2:=n0Z u
      have E:(u:Int)<(ms.length:Int):=by omega
      have F:Hid (∀g,Calls Tryz.prog 183 #[.agg #[.int .i64 (mid ms u),.slice s (mat ms u).length o],.agg #[.int .i64 x,.slice none 0 0]] g fun e w'=>e=.returned (.int .i64 (ZbL (mid ms u) x))/\Below g.heap.size g w'):=fun g=>Zj9 _ _ _ _ _ _ _ _ g
      have V:Hid ((ZbL (mid ms u) x ==0)=fb):=by show _=_;rw [Zgn,<-O.out];simp [hp]
      clear O K d t r
      generalize mid ms u=y at *
      generalize (mat ms u).length=yl at *
      generalize ZbL y x=cv at *
      have I:Hid (∀w',Below wr.heap.size wr w'->w'.cell? ⟨b,a+u*2,none⟩=some (.int .i64 y)/\w'.cell? ⟨b,a+u*2+1,none⟩=some (.slice s yl o)/\w'.cell? ⟨X,0,none⟩=some (.int .i64 x)/\w'.cell? ⟨X,1,none⟩=some (.slice none 0 0)):=fun w' L=>⟨(L.cell (p:=⟨b,a+u*2,none⟩) c).trans c0,(L.cell (p:=⟨b,a+u*2+1,none⟩) c).trans c1,(L.cell (p:=⟨X,0,none⟩) k).trans M,(L.cell (p:=⟨X,1,none⟩) k).trans N⟩
      go_wp2_with fail
      go_region_held3 (fun w'=>w'.cell? ⟨b,a+u*2,none⟩=some (.int .i64 y)/\w'.cell? ⟨b,a+u*2+1,none⟩=some (.slice s yl o)/\w'.cell? ⟨X,0,none⟩=some (.int .i64 x)/\w'.cell? ⟨X,1,none⟩=some (.slice none 0 0))
       (first
         | go_keep
         | exact I.out _ (Below.trans ((Below.refl wr.heap.size wr).drew) A))
       (first | (go_at_call 183;refine (F.out _).mono ?_;rintro e T ⟨rfl,A⟩))
      have l:Hid (Below W.heap.size W T):=Zb S.out (Below.trans ((Below.refl wr.heap.size wr).drew) A)
      clear A F I M N c0 c1
      simp only [Exit.then]
      go_wp2_with fail
      go_ret2
      exact⟨by rw [<-V.out];rfl,Zb Z.out l.out⟩
    · have V:Hid (false=fb):=by show _=_;rw [<-O.out];simp [hp]
      clear O d t r
      obtain rfl:u=ms.length:=by omega
      have E:¬((ms.length:Int)<(ms.length:Int)):=by omega
      go_wp2_with fail
      refine wp_region_quiet_lit (by kernel_rfl) (by kernel_rfl) ?_
      try simp only [List.append_eq,List.cons_append,List.nil_append]
      repeat (go_big_quiet_step (fail))
      refine wpQuiet_nil ?_
      intro _ Q
      obtain⟨nq,B⟩:=Q
      subst B
      go_wp2_with fail
      go_ret2
      exact⟨by rw [<-V.out];rfl,Zb Z.out (below_drewN S.out _)⟩
theorem Zja(am al:Option Addr)(cm nl cl:Nat)(ms:List Mk)(x:Int)(w:World)(hm:Zo w am ms)(hb:Zt ms=true):
 Calls Tryz.prog 156 #[.agg #[.slice am ms.length cm,.slice al nl cl],.int .i64 x] w fun e w'=>e=.returned (.tuple #[.int .i64 (plc x ms:Nat),.bool (decide (0<=ZC ms x))])/\Below w.heap.size w w':=by
 have b:Below w.heap.size w (w.alloc (.cells #[.slice am ms.length cm,.slice al nl cl] 158)):=(Below.refl _ _).alloc (Nat.le_refl _) _
 have f:=Za (ZkI am cm ms x _ (hm.next b) hb)
 have d:=Za b
 clear hm hb b
 generalize decide (0<=ZC ms x)=fb at *
 generalize plc x ms=p at *
 go_enter Tryz.func156,Tryz.ntmps156
 go_wp2_with fail
 refine f.out.mono ?_
 rintro e g ⟨rfl,c⟩
 have a:=Za (Zb d.out c)
 clear c
 go_wp2_with fail
 go_ret2
 exact⟨rfl,a.out⟩
def Zep(l:List Int)(k:Nat):Prop:=(∀j,j<k->1<=nth l j/\nth l j<=1000000)/\∀j,j+1<k->nth l j<nth l (j+1)
def Zdz(l:List Int)(k:Nat):Int:=if k=0 then 1 else nth l (k-1)+1
theorem ZhV{l:List Int}{k:Nat}(h:Zep l k):1<=Zdz l k/\Zdz l k<=1000001:=by
 unfold Zdz
 by_cases h0:k=0
 · simp [h0]
 · have:=h.1 (k-1) (by omega)
   simp [h0];omega
theorem ZdL(l:List Int)(k:Nat):Zdz l (k+1)=nth l k+1:=by simp [Zdz]
theorem ZhW{l:List Int}{k:Nat}(h:Zep l k)(h1:Zdz l k<=nth l k)(h2:nth l k<=1000000):Zep l (k+1):=by
 have a:=ZhV h
 refine⟨fun j b=>?_,fun j b=>?_⟩
 · rcases Nat.lt_or_ge j k with e | e
   · exact h.1 j e
   · obtain rfl:j=k:=by omega
     exact⟨by omega,h2⟩
 · rcases Nat.lt_or_ge (j+1) k with e | e
   · exact h.2 j e
   · obtain rfl:k=j+1:=by omega
     rw [ZdL] at h1
     omega
def upB(l:List Int):Bool:=Za0 l && decide (∀j,j<l.length->1<=nth l j/\nth l j<=1000000)
theorem Zg5(l:List Int):upB l=true↔Zep l l.length:=by
 simp only [upB,Bool.and_eq_true,decide_eq_true_eq,Zbb,Zep]
 exact⟨fun h=>⟨h.2,h.1⟩,fun h=>⟨h.2,h.1⟩⟩
theorem Zmn{l:List Int}{k:Nat}(hk:k<l.length)(h:nth l k<Zdz l k\/1000000<nth l k):upB l=false:=by
 rcases e:upB l with _ | _
 · rfl
 · have a:=(Zg5 l).1 e
   have b:=a.1 k hk
   rcases h with h | h
   · rcases Nat.eq_zero_or_pos k with e0 | e0
     · subst e0
       simp [Zdz] at h
       omega
     · obtain⟨j,rfl⟩:∃j,k=j+1:=⟨k-1,by omega⟩
       rw [ZdL] at h
       have:=a.2 j hk
       omega
   · omega
def Zg6(ms:List Mk)(ls:List (List Int))(y id:Int):Bool:=decide (0<=ZC ms y) && ZaI (cn ls (ZD ms y)) id
def Zcu(ms:List Mk)(ls:List (List Int))(id y:Int):Bool:=decide (y=id) || !Zg6 ms ls y id
def Zc4(ms:List Mk)(ls:List (List Int))(id:Int)(l:List Int):Bool:=upB l && !l.any (Zcu ms ls id)
theorem ZkJ{ms:List Mk}{ls:List (List Int)}(hm:Zt ms=true){i:Nat}(hi:i<ms.length):Zc4 ms ls (mid ms i) (cn ls i)=ZbX ms ls i:=by
 rw [Bool.eq_iff_iff,Zca]
 unfold Zc4
 rw [Bool.and_eq_true,Zg5,Bool.not_eq_true',List.any_eq_false]
 have f:∀y,Zcu ms ls (mid ms i) y=true↔Zch ms ls i y=false:=by
  intro y
  have d:Zch ms ls i y=true↔Zcu ms ls (mid ms i) y=false:=by
   rw [Zb9]
   unfold Zcu Zg6
   rw [Bool.or_eq_false_iff,decide_eq_false_iff_not,Bool.not_eq_false',Bool.and_eq_true,decide_eq_true_eq]
   constructor
   · rintro⟨a,b,c⟩
     refine⟨fun e=>b ?_,a,c⟩
     rw [e,(ZaF hm hi).1]
   · rintro⟨a,b,c⟩
     refine⟨b,fun e=>a ?_,c⟩
     have:=Zab b
     rw [<-this.2.2]
     congr 1
     omega
  rcases e1:Zcu ms ls (mid ms i) y with _ | _ <;> rcases e2:Zch ms ls i y with _ | _
  · exact absurd e2 (by rw [d.2 e1];simp)
  · simp
  · simp
  · have:=d.1 e2;rw [e1] at this;cases this
 constructor
 · rintro⟨h,g⟩
   refine⟨(Zbb _).2 h.2,fun k l=>?_⟩
   rcases e:Zch ms ls i (nth (cn ls i) k) with _ | _
   · exact absurd ((f _).2 e) (g _ ((Z3 _ _).1 (Zc5 l)))
   · rfl
 · rintro⟨h,g⟩
   refine⟨⟨fun j n=>?_,(Zbb _).1 h⟩,fun y o=>?_⟩
   · have p:=((Zb9 _ _ _ _).1 (g j n)).1
     obtain⟨a,-,c⟩:=Zab p
     have:=(ZZ _ _).1 (Zam hm a)
     rw [c] at this
     exact⟨this.1,this.2.1⟩
   · obtain⟨k,l,rfl⟩:=Ze7 o
     intro m
     have:=(f _).1 m
     rw [g k l] at this;cases this
theorem Zpd(ao:Option Addr)(cap:Nat)(l:List Int)(w:World)(hv:Zy w ao l)(hn:l.length<=1048576):
 Calls Tryz.prog 108 #[.slice ao l.length cap,.int .i64 1,.int .i64 1000000] w fun e w'=>e=.returned (.bool (upB l))/\w'=w:=by
 go_enter Tryz.func108,Tryz.ntmps108
 go_wp2
 go_loop [1,11] (fun g i=>∃k:Nat,k<=l.length/\i=.int .i64 k/\g=.int .i64 (Zdz l k)/\Zep l k) (fun _ i=>l.length-(intOf i).toNat)
 case atStart=>exact⟨0,Nat.zero_le _,rfl,rfl,fun j p=>by omega,fun j p=>by omega⟩
 case round=>
  obtain⟨k,s,rfl,rfl,a⟩:=hrel
  have o:=Za a
  have m:=ZhV a
  clear a
  obtain⟨g,c⟩:∃g,Zdz l k=g:=⟨_,rfl⟩
  rw [c] at m
  rw [c]
  have f:=Za c
  clear c
  by_cases hlt:k<l.length
  · obtain⟨b,d,rfl,n,q⟩:∃b d,ao=some ⟨b,d,none⟩/\b<w.heap.size/\Seg w b d l:=by
     rcases hv with h | h
     · subst h;simp at hlt
     · exact h
    have r:=q k hlt
    by_cases ha:nth l k<g
    · go_wp2
      go_ret
      exact⟨Zd (Eq.symm (Zmn hlt (Or.inl (by rw [f.out];exact ha)))),rfl⟩
    · by_cases n:1000000<nth l k
      · go_wp2
        go_ret
        exact⟨Zd (Eq.symm (Zmn hlt (Or.inr n))),rfl⟩
      · go_wp2
        go_round
        case rel=>exact⟨k+1,by omega,by go_num,by rw [ZdL],ZhW o.out (by rw [f.out];omega) (by omega)⟩
        case measure=>simp [intOf];omega
  · go_wp2
    go_ret
    obtain rfl:k=l.length:=by omega
    exact⟨Zd (Eq.symm ((Zg5 l).2 o.out)),rfl⟩
theorem iHasW(am al:Option Addr)(cm cl:Nat)(ms:List Mk)(ls:List (List Int))(y id:Int)(w:World)(hm:Zo w am ms)(hl:ZS w al ls)(hb:Zt ms=true)(hll:ls.length=ms.length)(hcs:Z7 ls):
 Calls Tryz.prog 204 #[.agg #[.slice am ms.length cm,.slice al ls.length cl],.int .i64 y,.int .i64 id] w fun e w'=>e=.returned (.bool (Zg6 ms ls y id))/\Below w.heap.size w w':=by
 obtain⟨W,n⟩:∃W,w.alloc (.cells #[.slice am ms.length cm,.slice al ls.length cl] 158)=W:=⟨_,rfl⟩
 have r:=balZ n
 have h:Zac W w.heap.size am cm ms al cl ls:=by rw [<-n];exact Zac.box hm hl
 have m:=Za (Zja am al cm ls.length cl ms y W h.mv hb)
 have v:=Za r
 have p:=Za h
 have u:=h.c0
 have o:=h.c1
 have z:=Za hb
 have s:=ZF hb
 clear hm hl r h
 by_cases hf:0<=ZC ms y
 · obtain⟨G,B,E⟩:=Zab hf
   have k:=Zg4 hb hf
   have l:Hid (Zg6 ms ls y id=ZaI (cn ls (ZD ms y)) id):=by show _=_;simp [Zg6,hf]
   rw [l.out]
   rw [k,decide_eq_true hf] at m
   have q:ZD ms y<ls.length:=by omega
   clear l k B E hf hb G hll
   generalize ZD ms y=j at *
   go_enter Tryz.func204,Tryz.ntmps204
   go_wp2_with fail
   refine m.out.mono ?_
   rintro e t ⟨rfl,g⟩
   have d:=p.out.below g
   have f:=Za (Zb v.out g)
   clear g p u o n
   have o:=d.c1
   obtain⟨b,F,rfl,H,x⟩:=d.cv.seg (by omega)
   obtain⟨a,c,c1,i⟩:=x j q
   have A:=Za (pHas a c (cn ls j) id t i (by have:=hcs.2 j;omega))
   have C:=n0Z j
   have D:(j:Int)<(ls.length:Int):=by omega
   clear d x i
   go_wp2_with fail
   refine A.out.mono ?_
   rintro e I ⟨rfl,rfl⟩
   go_wp2_with fail
   go_ret
   exact⟨rfl,f.out⟩
 · have l:Hid (Zg6 ms ls y id=false):=by show _=_;simp [Zg6,hf]
   rw [l.out]
   rw [decide_eq_false hf] at m
   clear l hf hb hll
   generalize plc y ms=j at *
   go_enter Tryz.func204,Tryz.ntmps204
   go_wp2_with fail
   refine m.out.mono ?_
   rintro e t ⟨rfl,g⟩
   have f:=Za (Zb v.out g)
   clear g p u o n
   go_wp2_with fail
   go_ret
   exact⟨rfl,f.out⟩
theorem iBadW(A B:Nat)(am al:Option Addr)(cm cl:Nat)(ms:List Mk)(ls:List (List Int))(y id:Int)(w:World)(hA:w.cell? ⟨A,0,none⟩=some (.int .i64 id))(hI:Zac w B am cm ms al cl ls)(hb:Zt ms=true)(hll:ls.length=ms.length)(hcs:Z7 ls):
 Calls Tryz.prog 203 #[.int .i64 y,.pointer (some ⟨A,0,none⟩),.pointer (some ⟨B,0,none⟩)] w fun e w'=>e=.returned (.bool (Zcu ms ls id y))/\Below w.heap.size w w':=by
 have d:=Za (iHasW am al cm cl ms ls y id w hI.mv hI.cv hb hll hcs)
 have g:=hI.c0
 have h:=hI.c1
 clear hI hll
 by_cases he:y=id
 · have a:Hid (Zcu ms ls id y=true):=by show _=_;simp [Zcu,he]
   rw [a.out]
   have c:(y ==id)=true:=by simp [he]
   clear a he d
   go_enter Tryz.func203,Tryz.ntmps203
   go_wp2_with fail
   go_ret
   exact⟨rfl,Below.refl _ _⟩
 · have a:Hid (Zcu ms ls id y=!Zg6 ms ls y id):=by show _=_;simp [Zcu,he]
   rw [a.out]
   have c:(y ==id)=false:=by simp [he]
   clear a he
   generalize Zg6 ms ls y id=r at *
   go_enter Tryz.func203,Tryz.ntmps203
   go_wp2_with fail
   refine d.out.mono ?_
   rintro e i ⟨rfl,f⟩
   have b:=Za f
   clear f g h hA
   go_wp2_with fail
   go_ret
   exact⟨rfl,b.out⟩
theorem Zmo{ms:List Mk}{ls:List (List Int)}{id:Int}{l:List Int}{k:Nat}(hk:k<l.length)(h:Zcu ms ls id (nth l k)=true):l.any (Zcu ms ls id)=true:=
 List.any_eq_true.2 ⟨_,(Z3 _ _).1 (Zc5 hk),h⟩
theorem ZnT{ms:List Mk}{ls:List (List Int)}{id:Int}{l:List Int}(h:∀j,j<l.length->Zcu ms ls id (nth l j)=false):l.any (Zcu ms ls id)=false:=by
 rw [List.any_eq_false]
 intro y a
 obtain⟨k,b,rfl⟩:=Ze7 a
 rw [h k b];simp
theorem ZnU(A B:Nat)(am al ao:Option Addr)(cm cl cap:Nat)(ms:List Mk)(ls:List (List Int))(id:Int)(l:List Int)(w:World)(hA:w.cell? ⟨A,0,none⟩=some (.int .i64 id))(hI:Zac w B am cm ms al cl ls)(hb:Zt ms=true)(hll:ls.length=ms.length)(hcs:Z7 ls)(hv:Zy w ao l)(hn:l.length<=1048576):
 Calls Tryz.prog 219 #[.slice ao l.length cap,.func (.func 203) #[] #[.pointer (some ⟨A,0,none⟩),.pointer (some ⟨B,0,none⟩)]] w fun e w'=>(∃r:Int,e=.returned (.int .i64 r)/\decide (0<=r)=l.any (Zcu ms ls id))/\Below w.heap.size w w':=by
 have o:A<w.heap.size:=Zcn hA
 have u:Hid (∀W y,Below w.heap.size w W->Calls Tryz.prog 203 #[.int .i64 y,.pointer (some ⟨A,0,none⟩),.pointer (some ⟨B,0,none⟩)] W fun e w'=>e=.returned (.bool (Zcu ms ls id y))/\Below W.heap.size W w'):=fun W y L=>
  iBadW A B am al cm cl ms ls y id W ((L.cell (p:=⟨A,0,none⟩) o).trans hA) (hI.below L) hb hll hcs
 have C:=Za hv
 clear hA hI hb hll hcs hv
 go_enter Tryz.func219,Tryz.ntmps219
 go_wp2_with fail
 go_loopw [8] (fun i wr=>∃k:Nat,k<=l.length/\i=.int .i64 k/\(∀j,j<k->Zcu ms ls id (nth l j)=false)/\Below w.heap.size w wr) (fun i _=>l.length-(intOf i).toNat)
 case atStart=>exact⟨0,Nat.zero_le _,rfl,fun j t=>by omega,Below.refl _ _⟩
 case round=>
  obtain⟨k,E,rfl,a,L⟩:=hrel
  have q:=Za a
  have n:=Za L
  have g:=C.out.next L
  clear a L
  by_cases hlt:k<l.length
  · obtain⟨b,c,rfl,hb,s⟩:∃b c,ao=some ⟨b,c,none⟩/\b<wr.heap.size/\Seg wr b c l:=by
     rcases g with h | h
     · subst h;simp at hlt
     · exact h
    have D:=s k hlt
    have m:=Za (u.out wr (nth l k) n.out)
    clear s g
    rcases he:Zcu ms ls id (nth l k) with _ | _
    · rw [he] at m
      have v:=Za he
      clear he
      go_wp2_with fail
      refine m.out.mono ?_
      rintro e x ⟨rfl,f⟩
      have d:=Za (Zb n.out f)
      clear f
      go_wp2_with fail
      go_roundw
      case rel=>exact⟨k+1,by omega,by go_num,fun j t=>by
       rcases Nat.lt_or_ge j k with h | h
       · exact q.out j h
       · rw [show j=k by omega];exact v.out,d.out⟩
      case measure=>simp [intOf];omega
    · have z:=Za (Zmo hlt he)
      rw [he] at m
      clear he
      go_wp2_with fail
      refine m.out.mono ?_
      rintro e x ⟨rfl,f⟩
      have d:=Za (Zb n.out f)
      clear f
      go_wp2_with fail
      go_ret
      exact⟨⟨(k:Int),rfl,by rw [z.out];simp⟩,d.out⟩
  · go_wp2_with fail
    go_ret
    obtain rfl:k=l.length:=by omega
    exact⟨⟨-1,rfl,by rw [ZnT q.out];rfl⟩,n.out⟩
theorem Zmp(A B:Nat)(am al ao:Option Addr)(cm cl cap:Nat)(ms:List Mk)(ls:List (List Int))(id:Int)(l:List Int)(w:World)(hA:w.cell? ⟨A,0,none⟩=some (.int .i64 id))(hI:Zac w B am cm ms al cl ls)(hb:Zt ms=true)(hll:ls.length=ms.length)(hcs:Z7 ls)(hv:Zy w ao l)(hn:l.length<=1048576):
 Calls Tryz.prog 202 #[.slice ao l.length cap,.func (.func 203) #[] #[.pointer (some ⟨A,0,none⟩),.pointer (some ⟨B,0,none⟩)]] w fun e w'=>e=.returned (.bool (l.any (Zcu ms ls id)))/\Below w.heap.size w w':=by
 have d:=Za (ZnU A B am al ao cm cl cap ms ls id l w hA hI hb hll hcs hv hn)
 clear hv hI hA
 go_enter Tryz.func202,Tryz.ntmps202
 go_wp2_with fail
 refine d.out.mono ?_
 rintro e f ⟨⟨r,rfl,c⟩,b⟩
 have a:=Za b
 clear b
 go_wp2_with fail
 go_ret
 exact⟨Zd (by rw [<-c]),a.out⟩
theorem Zpe(am al ao:Option Addr)(cm cl cap:Nat)(ms:List Mk)(ls:List (List Int))(id:Int)(l:List Int)(w:World)(hm:Zo w am ms)(hl:ZS w al ls)(hb:Zt ms=true)(hll:ls.length=ms.length)(hcs:Z7 ls)(hv:Zy w ao l)(hn:l.length<=1048576):
 Calls Tryz.prog 181 #[.agg #[.slice am ms.length cm,.slice al ls.length cl],.int .i64 id,.slice ao l.length cap] w fun e w'=>e=.returned (.bool (Zc4 ms ls id l))/\Below w.heap.size w w':=by
 obtain⟨a,d⟩:∃W,w.alloc (.cells #[.slice am ms.length cm,.slice al ls.length cl] 158)=W:=⟨_,rfl⟩
 have c:=balZ d
 have f:Zac a w.heap.size am cm ms al cl ls:=by rw [<-d];exact Zac.box hm hl
 obtain⟨W,o⟩:∃W,a.alloc (.cells #[.int .i64 id] 2)=W:=⟨_,rfl⟩
 have b:=balZ o
 have k:W.cell? ⟨a.heap.size,0,none⟩=some (.int .i64 id):=by rw [<-o];simp
 have i:=Za (Zb c b)
 have h:=Za (Zpd ao cap l W (hv.next i.out) hn)
 have n:=Za (Zmp a.heap.size w.heap.size am al ao cm cl cap ms ls id l W k (f.below b) hb hll hcs (hv.next i.out) hn)
 clear hm hl c f b k hv hb hcs hll
 rcases hu:upB l with _ | _
 · have g:Hid (Zc4 ms ls id l=false):=by show _=_;simp [Zc4,hu]
   rw [g.out]
   rw [hu] at h
   clear g n hu
   go_enter Tryz.func181,Tryz.ntmps181
   go_wp2_with fail
   refine h.out.mono ?_
   rintro e m ⟨rfl,rfl⟩
   go_wp2_with fail
   go_ret
   exact⟨rfl,i.out⟩
 · have g:Hid (Zc4 ms ls id l=!l.any (Zcu ms ls id)):=by show _=_;simp [Zc4,hu]
   rw [g.out]
   rw [hu] at h
   clear g hu
   generalize l.any (Zcu ms ls id)=r at *
   go_enter Tryz.func181,Tryz.ntmps181
   go_wp2_with fail
   refine h.out.mono ?_
   rintro e m ⟨rfl,rfl⟩
   go_wp2_with fail
   refine n.out.mono ?_
   rintro e m ⟨rfl,p⟩
   have j:=Za (Zb i.out p)
   clear p
   go_wp2_with fail
   go_ret
   exact⟨rfl,j.out⟩
theorem ZkK{ms:List Mk}{ls:List (List Int)}(hm:Zt ms=true)(hl:ls.length=ms.length)(h:∀j,j<ms.length->ZbX ms ls j=true):Zax ms ls=true:=
 (ZbM ms ls).2 ⟨hm,hl,fun i hi=>h i (by omega)⟩
theorem ZhX:Zo4:=by
 intro am B d al J f w hm hl C E aG aK
 obtain⟨W,hW⟩:∃W,w.alloc (.cells #[.slice am d.length B,.slice al f.length J] 158)=W:=⟨_,rfl⟩
 have hB:=balZ hW
 have hI:Zac W w.heap.size am B d al J f:=by rw [<-hW];exact Zac.box hm hl
 have I:=Za (Zg7 am B d W hI.mv C)
 have HB:=Za hB
 have HI:=Za hI
 have u:=hI.c0
 have r:=hI.c1
 have aN:=C.1
 have aJ:=E.1
 have HS:=Za E
 clear hm hl hB hI C E
 rcases hmb:Zt d with _ | _
 · have x:Hid (Zax d f=false):=by show _=_;simp [Zax,hmb]
   rw [hmb] at I
   rw [x.out]
   go_enter Tryz.func153,Tryz.ntmps153
   go_wp2_with fail
   refine I.out.mono ?_
   rintro e G ⟨rfl,q⟩
   have n:=Za (Zb HB.out q)
   clear q
   go_wp2_with fail
   go_ret
   exact⟨rfl,n.out⟩
 rw [hmb] at I
 by_cases hlen:f.length=d.length
 · have ab:((f.length:Int) !=(d.length:Int))=false:=by simp [hlen]
   have Q:=Za hlen
   have R:=Za hmb
   have a4:Hid (∀i,i<d.length->Zc4 d f (mid d i) (cn f i)=ZbX d f i):=fun i hi=>ZkJ hmb hi
   have s:∀i:Nat,i<d.length->i<f.length:=fun i hi=>by omega
   have aa:=Za s
   clear hlen hmb s
   go_enter Tryz.func153,Tryz.ntmps153
   go_wp2_with fail
   refine I.out.mono ?_
   rintro e G ⟨rfl,q⟩
   have l:=HI.out.below q
   have a6:=Za l
   have n:=Za (Zb HB.out q)
   clear q u r HI I hW
   have u:=l.c0
   have r:=l.c1
   have aM:=l.lt
   clear l
   generalize hXX:w.heap.size=X at *
   have HX:=Za hXX
   clear hXX
   go_wp2_with fail
   go_loopw [21] (fun i wr=>∃k:Nat,k<=d.length/\i=.int .i64 k/\(∀j,j<k->ZbX d f j=true)/\Below G.heap.size G wr) (fun i _=>d.length-(intOf i).toNat)
   case atStart=>exact⟨0,Nat.zero_le _,rfl,fun j hj=>by omega,Below.refl _ _⟩
   case round=>
    obtain⟨k,hk,rfl,t,L⟩:=hrel
    have HA:=Za t
    have HL:=Za L
    have m:=a6.out.below L
    clear t L u r
    by_cases hlt:k<d.length
    · have P:=aa.out k hlt
      have a9:=Za (a4.out k hlt)
      have U:=Za m
      obtain⟨b,v,rfl,aE,hs⟩:=ZaV.seg m.mv (by omega)
      obtain⟨c0,ao,cc,c1,-⟩:=hs.at (i:=k) hlt
      obtain⟨F,g,rfl,N,K⟩:=m.cv.seg (by omega)
      obtain⟨a,c,d0,Z⟩:=K k P
      have u:=m.c0
      have r:=m.c1
      have T:=m.lt
      have aC:=n0Z k
      have aF:(k:Int)<(d.length:Int):=by omega
      have aA:(k:Int)<(f.length:Int):=by omega
      have ae:=Za Z
      have O:=HS.out.2 k
      have HT:Hid (∀H,Below wr.heap.size wr H->Calls Tryz.prog 181 #[.agg #[.slice (some ⟨b,v,none⟩) d.length B,.slice (some ⟨F,g,none⟩) f.length J],.int .i64 (mid d k),.slice a (cn f k).length c] H fun e o=>e=.returned (.bool (ZbX d f k))/\Below H.heap.size H o):=fun H D=>by
       rw [<-a9.out]
       exact Zpe _ _ _ B J c d f (mid d k) (cn f k) H (U.out.mv.next D) (U.out.cv.next D) R.out Q.out HS.out (ae.out.next D) O
      obtain⟨V,hV⟩:∃V,wr.alloc (.cells #[.int .i64 (mid d k),.slice ao (mat d k).length cc] 161)=V:=⟨_,rfl⟩
      have z:Hid (Below wr.heap.size wr V):=by show Below _ _ _;rw [<-hV];exact (Below.refl _ _).alloc (Nat.le_refl _) _
      have A:V.cell? ⟨wr.heap.size,0,none⟩=some (.int .i64 (mid d k)):=by rw [<-hV];simp
      have HK:Hid (∀o,Below V.heap.size V o->o.cell? ⟨X,0,none⟩=some (.slice (some ⟨b,v,none⟩) d.length B)/\o.cell? ⟨X,1,none⟩=some (.slice (some ⟨F,g,none⟩) f.length J)/\o.cell? ⟨wr.heap.size,0,none⟩=some (.int .i64 (mid d k))/\o.cell? ⟨F,g+k,none⟩=some (.slice a (cn f k).length c)):=fun o L=>by
       have D:=Zb z.out L
       have M:=altZ hV
       exact⟨(D.cell (p:=⟨X,0,none⟩) T).trans u,(D.cell (p:=⟨X,1,none⟩) T).trans r,(L.cell (p:=⟨wr.heap.size,0,none⟩) M).trans A,(D.cell (p:=⟨F,g+k,none⟩) N).trans d0⟩
      clear m hs K Z
      generalize mid d k=y at *
      generalize (mat d k).length=yl at *
      generalize (cn f k).length=nl at *
      go_wp2_with fail
      obtain⟨Y,hY⟩:∃Y,Y=wr.heap.size:=⟨_,rfl⟩
      rw [<-hY] at HK A ⊢
      have a5:=HK.out V (Below.refl _ _)
      obtain⟨z0,z1,z2,z3⟩:=a5
      clear hV u r c0 c1 d0 A hY
      go_region_held3 (fun o=>o.cell? ⟨X,0,none⟩=some (.slice (some ⟨b,v,none⟩) d.length B)/\o.cell? ⟨X,1,none⟩=some (.slice (some ⟨F,g,none⟩) f.length J)/\o.cell? ⟨Y,0,none⟩=some (.int .i64 y)/\o.cell? ⟨F,g+k,none⟩=some (.slice a nl c))
       (first
         | go_keep
         | exact HK.out _ (Below.trans ((Below.refl V.heap.size V).drew) L2))
       (first | (go_at_call 181;refine (HT.out _ (Below.drew z.out)).mono ?_;rintro e w2 ⟨rfl,L2⟩))
      have S:Hid (Below G.heap.size G w2):=Zb HL.out (Zb z.out (Below.trans ((Below.refl V.heap.size V).drew) L2))
      clear L2 HT HK z0 z1 z2 z3
      simp only [Exit.then]
      rcases hat:ZbX d f k with _ | _
      · have x:=Za (Zd1 P hat)
        clear hat
        go_wp2_with fail
        go_ret
        have hX:=HX.out
        subst hX
        exact⟨Zd x.out.symm,Zb n.out S.out⟩
      · have HE:=Za hat
        clear hat
        go_wp2_with fail
        go_roundw
        case rel=>exact⟨k+1,by omega,by go_num,fun j hj=>by
         rcases Nat.lt_or_ge j k with h | h
         · exact HA.out j h
         · rw [show j=k by omega];exact HE.out,S.out⟩
        case measure=>simp [intOf];omega
    · obtain rfl:k=d.length:=by omega
      have x:=Za (ZkK R.out Q.out HA.out)
      go_wp2_with fail
      go_ret
      have hX:=HX.out
      subst hX
      exact⟨Zd x.out.symm,Zb n.out HL.out⟩
 · have ab:((f.length:Int) !=(d.length:Int))=true:=by simp;omega
   have x:Hid (Zax d f=false):=by show _=_;simp [Zax,hlen]
   rw [x.out]
   clear hlen
   go_enter Tryz.func153,Tryz.ntmps153
   go_wp2_with fail
   refine I.out.mono ?_
   rintro e G ⟨rfl,q⟩
   have l:=HI.out.below q
   have n:=Za (Zb HB.out q)
   clear q u r HI
   have u:=l.c0
   have r:=l.c1
   go_wp2_with fail
   go_ret
   exact⟨rfl,n.out⟩
end Go.Proofs.YtilkaeclgmcolaaGreat
