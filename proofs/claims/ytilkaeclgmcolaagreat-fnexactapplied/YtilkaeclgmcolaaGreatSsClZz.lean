import Derived.Test.YtilkaeclgmcolaaGreatSCellsZz
import Derived.Test.YtilkaeclgmcolaaGreatDkOkZz
import Derived.Test.YtilkaeclgmcolaaGreatGnStZz
import Derived.Test.YtilkaeclgmcolaaGreatLkWebZz
import Derived.Test.YtilkaeclgmcolaaGreatFgRowZz
set_option maxRecDepth 100000
set_option maxHeartbeats 16000000
namespace Go.Proofs.YtilkaeclgmcolaaGreat
open Go Go.RowKit
theorem ZjN(cap:Nat)(w:World):
 Calls Tryz.prog 85 #[.slice none 0 cap] w fun e w'=>e=.returned (.slice none 0 0)/\w'=w:=by
 have a:(binOp .eql 42 (.slice none 0 cap) (.slice none 0 0)).run Tryz.prog w=.ok (.bool true) w:=Lib.run_eql_slice_nil w 42 87 _ _ _ _ _ Tryz.underlying42
 go_enter Tryz.func85,Tryz.ntmps85
 go_wp2_with fail
 go_ret
 exact⟨rfl,rfl⟩
theorem ZiH(p:Addr)(cap:Nat)(xs:List Zv)(w:World)(hv:Zm w (some p) xs)(hn:xs.length<=1048576):
 Calls Tryz.prog 85 #[.slice (some p) xs.length cap] w fun e w'=>∃g c,e=.returned (.slice (some ⟨g,0,none⟩) xs.length c)/\Zq w.heap.size w' g c xs/\Below w.heap.size w w':=by
 obtain⟨o,f,h,j,i⟩:=info_parts (P:=Tryz.prog) (e:=87) (z:=.agg #[.int .i64 0,.int .i64 0,.int .i64 0]) (size:=3) (bytes:=24) (by kernel_rfl)
 have d:Below w.heap.size w (w.alloc (.cells #[] 87)):=(Below.refl _ _).alloc (Nat.le_refl _) _
 have m:=Za (Zq.start w w.heap.size (Nat.le_refl _))
 have v:=Za ((hv.next d).src)
 have q:=Za d
 have t:(binOp .eql 42 (.slice (some p) xs.length cap) (.slice none 0 0)).run Tryz.prog w=.ok (.bool false) w:=Lib.run_eql_slice_nil w 42 87 _ _ _ _ _ Tryz.underlying42
 clear d hv
 go_enter Tryz.func85,Tryz.ntmps85
 go_wp2_with (at_builtin;refine Zw _ rfl (.tmp 5) (.tmp 6) 42 rfl w.heap.size 87 o _ 3 24 Tryz.underlying42 f h j i rfl (by omega) w.heap.size 0 0 [] rfl m.out (some p) xs.length cap (Zg xs) rfl v.out (by unfold maxLen;omega) (by omega) (by simp) (w.heap.size+1) (by simp) ?_;intro r s x b a n l)
 go_ret
 exact⟨r,s,rfl,Zq.of b (by omega) (by simp),q.out.grown a (by simp) (by intro k u;cases u;omega)⟩
theorem Zoy(ao:Option Addr)(cap:Nat)(xs:List Zv)(w:World)(hv:Zm w ao xs)(hn:xs.length<=1048576):
 Calls Tryz.prog 85 #[.slice ao xs.length cap] w fun e w'=>(e=.returned (.slice none 0 0)/\xs=[]\/∃g c,e=.returned (.slice (some ⟨g,0,none⟩) xs.length c)/\Zq w.heap.size w' g c xs)/\Below w.heap.size w w':=by
 cases ao with
 | none=>
   obtain rfl:xs=[]:=by
    rcases hv with h | ⟨b,off,e,-⟩
    · exact h
    · cases e
   refine (ZjN cap w).mono ?_
   rintro e w' ⟨rfl,rfl⟩
   exact⟨Or.inl ⟨rfl,rfl⟩,Below.refl _ _⟩
 | some p=>
   refine (ZiH p cap xs w hv hn).mono ?_
   rintro e w' ⟨g,c,rfl,a,L⟩
   exact⟨Or.inr ⟨g,c,rfl,a⟩,L⟩
def Zat(lo:Nat)(w:World)(a:Option Addr)(c:Nat)(ss:List Zv):Prop:=(a=none/\c=0/\ss=[])\/∃g,a=some ⟨g,0,none⟩/\Zq lo w g c ss
theorem Znl(am aw aq:Option Addr)(cm cw cs:Nat)(wd d nx:Int)(ms:List Mk)(ts:List Wb)(ss:List Zv)(w:World)(hm:Zo w am ms)(hv:Zp true w aw ts)(hs:Zm w aq ss)(hst:stB wd ms d ts nx=true)(hsm:Z0 ms ts)(hlen:ss.length<=1048576):
 Calls Tryz.prog 48 #[.agg #[.int .i64 wd,.slice am ms.length cm,.int .i64 d,.slice aw ts.length cw,.int .i64 nx,.slice aq ss.length cs]] w fun e w'=>∃g ta tc sa sc lo hi,e=.returned (.agg #[.int .i64 wd,.slice (some ⟨g,0,none⟩) ms.length ms.length,.int .i64 d,.slice ta ts.length tc,.int .i64 nx,.slice sa ss.length sc])/\w.heap.size<=lo/\lo<=hi/\hi<=w'.heap.size/\OwK lo hi w' g (.slice ta ts.length tc) ms ts/\Zat hi w' sa sc ss/\Below w.heap.size w w':=by
 obtain⟨r,y,-,-⟩:=ZaY hst
 obtain⟨f,k⟩:∃W,w.alloc (.cells #[.int .i64 wd,.slice am ms.length cm,.int .i64 d,.slice aw ts.length cw,.int .i64 nx,.slice aq ss.length cs] 44)=W:=⟨_,rfl⟩
 obtain⟨W,F⟩:∃W,f.alloc (.cells #[.int .i64 0,.slice none 0 0,.int .i64 0,.slice none 0 0,.int .i64 0,.slice none 0 0] 44)=W:=⟨_,rfl⟩
 have s1:=salZ k
 have s2:W.heap.size=w.heap.size+1+1:=by rw [<-F];simp [s1]
 have G:=balZ k
 have b2:=balZ F
 have hD:=nalZ k
 have hR:=nal2Z F s1
 have I:=Za (And.intro s1 s2)
 have T:=Za G
 have HR:=Za hR
 have P:=Za r
 have HS:Hid (∀a,Below f.heap.size f a->a.cell? ⟨w.heap.size,0,none⟩=some (.int .i64 wd)/\a.cell? ⟨w.heap.size,1,none⟩=some (.slice am ms.length cm)/\a.cell? ⟨w.heap.size,2,none⟩=some (.int .i64 d)/\a.cell? ⟨w.heap.size,3,none⟩=some (.slice aw ts.length cw)/\a.cell? ⟨w.heap.size,4,none⟩=some (.int .i64 nx)/\a.cell? ⟨w.heap.size,5,none⟩=some (.slice aq ss.length cs)):=fun a L=>by
  obtain⟨k0,k1,k2,k3,k4,k5,-,-⟩:=Zh ((L.block w.heap.size (by omega)).trans hD)
  exact⟨k0,k1,k2,k3,k4,k5⟩
 have O:Hid (∀a,Below f.heap.size f a->Calls Tryz.prog 84 #[.agg #[.int .i64 wd,.slice am ms.length cm,.int .i64 d,.slice aw ts.length cw,.int .i64 nx]] a fun e w'=>∃g U,e=.returned (.agg #[.int .i64 wd,.slice (some ⟨g,0,none⟩) ms.length ms.length,.int .i64 d,U,.int .i64 nx])/\Zid a.heap.size w' g U ms ts/\Below a.heap.size a w'):=fun a L=>Zet true am aw cm cw wd ms d ts nx a (hm.next (Zb G L)) (hv.next (Zb G L)) r y hsm
 have a1:Hid (∀a,Below f.heap.size f a->Calls Tryz.prog 85 #[.slice aq ss.length cs] a fun e w'=>(e=.returned (.slice none 0 0)/\ss=[]\/∃g c,e=.returned (.slice (some ⟨g,0,none⟩) ss.length c)/\Zq a.heap.size w' g c ss)/\Below a.heap.size a w'):=fun a L=>Zoy aq cs ss a (hs.next (Zb G L)) hlen
 have BL:=Za b2.drew
 have BW:=Za ((Below.refl W.heap.size W).drew)
 have D:Hid _:=aw2Z k F
 clear hm hv hs s1 s2 G b2 hD hR F k y hsm r hst
 go_enter Tryz.func48,Tryz.ntmps48
 go_upto_region 1 with fail
 rw [D.out]
 clear D
 refine Zl (S:=fun a=>Below f.heap.size f a) (fuel:=4) [0,1,3,4] (by kernel_rfl) (by kernel_rfl) (by kernel_rfl) (by kernel_rfl) BL.out (fun _=>?_)
 iterate 4 (refine⟨_,rfl,?_⟩;apply Exists.intro;refine⟨Or.inl ⟨by rfl,fun w' x=>?_⟩,?_⟩;(focus (obtain⟨e0,e1,e2,e3,e4,e5⟩:=HS.out w' x;go_simp<;>with_reducible rfl));simp only [Act.put,tkgZ])
 refine Zc 2 (by kernel_rfl) rfl (fun K n=>?_)
 go_simp
 refine (O.out _ BL.out).mono ?_
 rintro e p ⟨g,U,rfl,ho,X⟩
 obtain⟨ta,tc,rfl,hk⟩:=Zdo ho P.out
 have V:=Zb BL.out X
 have s:=Zb BW.out X
 refine n.out _ _ V (fun _=>?_)
 clear n K X ho
 refine Zc 5 (by kernel_rfl) rfl (fun K n=>?_)
 go_simp
 refine (a1.out _ V).mono ?_
 rintro e A ⟨E,z⟩
 obtain⟨sa,sc,rfl,J⟩:∃sa sc,e=.returned (.slice sa ss.length sc)/\Zat p.heap.size A sa sc ss:=by
  rcases E with ⟨rfl,rfl⟩ | ⟨g,c,rfl,hr⟩
  · exact⟨none,0,rfl,Or.inl ⟨rfl,rfl,rfl⟩⟩
  · exact⟨_,c,rfl,Or.inr ⟨g,rfl,hr⟩⟩
 have L5:=Zb V z
 have Y:=Zb s z
 refine n.out _ _ L5 (fun _=>?_)
 clear n K E
 have u:=(Y.block (w.heap.size+1) (by have:=I.out.2;omega)).trans HR.out
 obtain⟨r0,r1,r2,r3,r4,r5,t,aF⟩:=Zh u
 have f0:=t 0
 have f1:=t 1
 have f2:=t 2
 have f3:=t 3
 have f4:=t 4
 have f5:=t 5
 have Z:w.heap.size+1<W.drew.heap.size:=by show _<W.heap.size;have:=I.out.2;omega
 have Q:OwK W.drew.heap.size p.heap.size A g (.slice ta ts.length tc) ms ts:=hk.sm z.size (fun b _ H=>z.block b H)
 have ay:w.heap.size+1<p.heap.size:=by have:=s.size;have:=I.out.2;omega
 have a8:f.heap.size=w.heap.size+1:=I.out.1
 refine Zz 1 [6] (by kernel_rfl) (by kernel_rfl) (by kernel_rfl) L5 ?_
 iterate 1
  refine⟨_,rfl,?_⟩
  apply Exists.intro
  refine⟨Or.inl ⟨by rfl,fun w' x=>?_⟩,?_⟩
  · first
    | (go_simp;done)
    | (go_simp;with_reducible rfl)
  simp only [Act.put,tkgZ]
 refine Zc 7 (by kernel_rfl) rfl (fun K n=>?_)
 go_simp
 obtain⟨o,j⟩:∃o,((((((A.setCell ⟨w.heap.size+1,0,none⟩ (.int .i64 wd)).setCell ⟨w.heap.size+1,1,none⟩ (.slice (some ⟨g,0,none⟩) ms.length ms.length)).setCell ⟨w.heap.size+1,2,none⟩ (.int .i64 d)).setCell ⟨w.heap.size+1,3,none⟩ (.slice ta ts.length tc)).setCell ⟨w.heap.size+1,4,none⟩ (.int .i64 nx)).setCell ⟨w.heap.size+1,5,none⟩ (.slice sa ss.length sc))=o:=⟨_,rfl⟩
 have i:f.heap.size<=w.heap.size+1:=by omega
 have LZ:Below f.heap.size f o:=by rw [<-j];exact (((((L5.setCell i _).setCell i _).setCell i _).setCell i _).setCell i _).setCell i _
 have N:=Zaf (a':=.int .i64 wd) (b':=.slice (some ⟨g,0,none⟩) ms.length ms.length) (c':=.int .i64 d) (d':=.slice ta ts.length tc) (e':=.int .i64 nx) (f':=.slice sa ss.length sc) u
 have l:∀b,b≠w.heap.size+1->o.heap[b]? =A.heap[b]? :=fun b H=>by rw [<-j];exact Zau H
 have m:o.heap.size=A.heap.size:=by rw [<-j];simp
 rw [j] at N ⊢
 have B:OwK W.drew.heap.size p.heap.size o g (.slice ta ts.length tc) ms ts:=Q.sm (by omega) (fun b H _=>l b (by omega))
 have C:Zat p.heap.size o sa sc ss:=by
  rcases J with h | ⟨q,e,hr⟩
  · exact Or.inl h
  · exact Or.inr ⟨q,e,Zaz hr (l q (by have:=hr.lt;omega))⟩
 obtain⟨z0,z1,z2,z3,z4,z5,-,-⟩:=Zh N
 have R:W.drew.heap.size<=p.heap.size:=s.size
 have M:p.heap.size<=o.heap.size:=by rw [m];exact z.size
 have HF:=Za (And.intro B (And.intro C (And.intro (Zb T.out LZ) (And.intro Z (And.intro R M)))))
 refine n.out _ _ LZ (fun _=>?_)
 clear n K j N l m B C LZ r0 r1 r2 r3 r4 r5 t f0 f1 f2 f3 f4 f5 u
 refine wpAnyH_done (by kernel_rfl) ?_ _
 refine NoPanic.normal ?_
 try simp only [Exit.then]
 go_wp2_with fail
 refine bodyPost_ret (v:=.agg #[.int .i64 wd,.slice (some ⟨g,0,none⟩) ms.length ms.length,.int .i64 d,.slice ta ts.length tc,.int .i64 nx,.slice sa ss.length sc]) (by simp [results,Tryz.results48,go_sem,z0,z1,z2,z3,z4,z5]) rfl ?_
 obtain⟨y1,y2,y3,y4,y5,y6⟩:=HF.out
 exact⟨g,ta,tc,sa,sc,W.drew.heap.size,p.heap.size,rfl,by omega,y5,y6,y1,y2,y3⟩
theorem Zef{w:World}{q:Nat}{a b c d e f f':Value}{t:TypeId}(h:w.heap[q]? =some (.cells #[a,b,c,d,e,f] t)):(w.setCell ⟨q,5,none⟩ f').heap[q]? =some (.cells #[a,b,c,d,e,f'] t):=by
 simp [World.setCell,Array.getElem?_modify,h]
def ZjO(lo X N:Nat)(w w':World)(sa:Option Addr)(v0 v1 v2 v3 v4:Value)(ss:List Zv):Prop:=
 ∃sb sd,w'.heap[X]? =some (.cells #[v0,v1,v2,v3,v4,.slice sb ss.length sd] 44)/\Zat lo w' sb sd ss/\(∀q,sb=some ⟨q,0,none⟩->sa=some ⟨q,0,none⟩\/N<=q)/\Cgd (fun b=>b=X\/sa=some ⟨b,0,none⟩) w w'
theorem iTell(X:Nat)(am aw sa:Option Addr)(cm cw sc:Nat)(wd d nx:Int)(ms:List Mk)(ts:List Wb)(ss:List Zv)(s:Zv)(w:World)(lo:Nat)(hd:w.heap[X]? =some (.cells #[.int .i64 wd,.slice am ms.length cm,.int .i64 d,.slice aw ts.length cw,.int .i64 nx,.slice sa ss.length sc] 44))(ho:Zat lo w sa sc ss)(hX:X<w.heap.size)(hXs:sa≠some ⟨X,0,none⟩)(hlo:lo<=w.heap.size)(hb:Zgm ss)(hlen:ss.length<=8):
 Calls Tryz.prog 52 #[.pointer (some ⟨X,0,none⟩),.agg #[.int .i64 s.1,.int .i64 s.2.1,.int .i64 s.2.2]] w fun e w'=>e=.returned (.tuple #[])/\ZjO lo X w.heap.size w w' sa (.int .i64 wd) (.slice am ms.length cm) (.int .i64 d) (.slice aw ts.length cw) (.int .i64 nx) (Za3 s ss):=by
 obtain⟨W,hW⟩:∃W,w.alloc (.cells #[.int .i64 s.1,.int .i64 s.2.1,.int .i64 s.2.2] 87)=W:=⟨_,rfl⟩
 have bW:=balZ hW
 have hT:=nalZ hW
 have hD:W.heap[X]? =some (.cells #[.int .i64 wd,.slice am ms.length cm,.int .i64 d,.slice aw ts.length cw,.int .i64 nx,.slice sa ss.length sc] 44):=(bW.block X (by omega)).trans hd
 have sW:=salZ hW
 have ad:Zm W sa ss:=by
  rcases ho with ⟨-,-,h⟩ | ⟨g,rfl,hr⟩
  · exact Or.inl h
  · exact hr.view.next bW
 have HC:Hid (∀m,Below W.heap.size W m->m.cell? ⟨X,0,none⟩=some (.int .i64 wd)/\m.cell? ⟨X,1,none⟩=some (.slice am ms.length cm)/\m.cell? ⟨X,2,none⟩=some (.int .i64 d)/\m.cell? ⟨X,3,none⟩=some (.slice aw ts.length cw)/\m.cell? ⟨X,4,none⟩=some (.int .i64 nx)/\m.cell? ⟨X,5,none⟩=some (.slice sa ss.length sc)/\m.cell? ⟨w.heap.size,0,none⟩=some (.int .i64 s.1)/\m.cell? ⟨w.heap.size,1,none⟩=some (.int .i64 s.2.1)/\m.cell? ⟨w.heap.size,2,none⟩=some (.int .i64 s.2.2)):=fun m L=>by
  obtain⟨k0,k1,k2,k3,k4,k5,-,-⟩:=Zh ((L.block X (by omega)).trans hD)
  obtain⟨l0,l1,l2,-,-,-⟩:=ZN ((L.block w.heap.size (by omega)).trans hT)
  exact⟨k0,k1,k2,k3,k4,k5,l0,l1,l2⟩
 obtain⟨o,U⟩:∃o,Zdt s.1 ss=o:=⟨_,rfl⟩
 obtain⟨f,V⟩:∃f,plS s.1 ss=f:=⟨_,rfl⟩
 have a0:Hid (Za3 s ss=if o=true then ss.set f s else ss.take f++s::ss.drop f):=by show _=_;unfold Za3;rw [U,V]
 have aG:Hid (o=true->f<ss.length):=fun h=>by have:=(Ze4 (U.trans h)).1;omega
 have ar:f<=ss.length:=by rw [<-V];exact Zi3 s.1 ss
 have aB:Hid (∀m,Below W.heap.size W m->Calls Tryz.prog 86 #[.agg #[.int .i64 wd,.slice am ms.length cm,.int .i64 d,.slice aw ts.length cw,.int .i64 nx,.slice sa ss.length sc],.int .i64 s.1] m fun e w'=>e=.returned (.tuple #[.int .i64 f,.bool o])/\Below m.heap.size m w'):=fun m L=>by rw [<-U,<-V];exact Zj7 am aw sa cm cw sc wd d nx s.1 ms ts ss m (ad.next L) hb (by omega)
 have a3:=Za ((Below.refl W.heap.size W).drew)
 have HD:=Za hD
 have HT:=Za hT
 have HO:=Za ho
 have Z:=Za (And.intro sW (And.intro hX hlo))
 have T:=Za hXs
 have HW:=Za hW
 have aC:=Za bW
 clear hd ho hX hXs hlo hb bW hT hD sW ad hW U V
 go_enter Tryz.func52,Tryz.ntmps52
 go_upto_region 1 with fail
 rw [HW.out]
 clear HW
 refine Zl (S:=fun m=>Below W.heap.size W m) (fuel:=6) [0,1,2,3,4] (by kernel_rfl) (by kernel_rfl) (by kernel_rfl) (by kernel_rfl) a3.out (fun _=>?_)
 iterate 5 (refine⟨_,rfl,?_⟩;(first | refine⟨undef,Or.inr ⟨by rfl,rfl⟩,?_⟩ | (apply Exists.intro;refine⟨Or.inl ⟨by rfl,fun w' x=>?_⟩,?_⟩;(focus (obtain⟨e0,e1,e2,e3,e4,e5,e6,e7,e8⟩:=HC.out w' x;go_simp<;>with_reducible rfl))));simp only [Act.put,tkgZ])
 refine Zc 5 (by kernel_rfl) rfl (fun K i=>?_)
 go_simp
 refine (aB.out _ a3.out).mono ?_
 rintro e y ⟨rfl,an⟩
 have J:=Zb a3.out an
 refine i.out _ _ J (fun _=>?_)
 clear i K an
 refine ZB [6,7,8,9,10] (by kernel_rfl) (by kernel_rfl) (by kernel_rfl) (by kernel_rfl) J ?_
 iterate 5 (refine⟨_,rfl,?_⟩;(first | refine⟨undef,Or.inr ⟨by rfl,rfl⟩,?_⟩ | (apply Exists.intro;refine⟨Or.inl ⟨by rfl,fun w' x=>?_⟩,?_⟩;(focus (obtain⟨e0,e1,e2,e3,e4,e5,e6,e7,e8⟩:=HC.out w' x;go_simp<;>with_reducible rfl))));simp only [Act.put,tkgZ])
 refine NoPanic.normal (NoPanic.normal ?_)
 have aP:=Za J
 have Q:Hid (y.heap[w.heap.size]? =some (.cells #[.int .i64 s.1,.int .i64 s.2.1,.int .i64 s.2.2] 87)):=(J.block w.heap.size (by have:=Z.out.1;omega)).trans HT.out
 have a5:Hid (y.heap[X]? =some (.cells #[.int .i64 wd,.slice am ms.length cm,.int .i64 d,.slice aw ts.length cw,.int .i64 nx,.slice sa ss.length sc] 44)):=(J.block X (by have:=Z.out;omega)).trans HD.out
 have t:Hid (Below w.heap.size w y):=Zb aC.out J
 clear J
 cases o with
 | true=>
   have a1:=aG.out rfl
   obtain⟨g,rfl,a2⟩:∃g,sa=some ⟨g,0,none⟩/\Zq lo w g sc ss:=by
    rcases HO.out with ⟨-,-,h⟩ | h
    · rw [h] at a1;simp at a1
    · exact h
   have aQ:=a2.lt
   have ab:=Z.out
   have aI:g≠X:=fun e=>T.out (by rw [e])
   have aE:g≠w.heap.size:=by omega
   obtain⟨u,hu⟩:∃u,y.drew=u:=⟨_,rfl⟩
   have H:u.os=y.os/\u.tape=y.tape/\u.output=y.output/\u.heap=y.heap:=by rw [<-hu];exact⟨rfl,rfl,rfl,rfl⟩
   have HU:=Za H
   have ap:Zq lo u g sc ss:=ZR a2 (by rw [H.2.2.2];exact t.out.block g aQ.2)
   have D:y.drew.heap[w.heap.size]? =some (.cells #[.int .i64 s.1,.int .i64 s.2.1,.int .i64 s.2.2] 87):=Q.out
   have a9:u.heap[w.heap.size]? =some (.cells #[.int .i64 s.1,.int .i64 s.2.1,.int .i64 s.2.2] 87):=by rw [H.2.2.2];exact Q.out
   have R:Hid (u.heap[X]? =some (.cells #[.int .i64 wd,.slice am ms.length cm,.int .i64 d,.slice aw ts.length cw,.int .i64 nx,.slice (some ⟨g,0,none⟩) ss.length sc] 44)):=by show u.heap[X]? =_;rw [H.2.2.2];exact a5.out
   have aH:=n0Z f
   have aJ:(f:Int)<(ss.length:Int):=by omega
   obtain⟨-,-,-,-,-,k5,-,-⟩:=Zh R.out
   have M:=Za ap
   clear a2 ab ap H
   go_upto_region 3 with fail
   refine Zl (S:=fun m=>m.heap[w.heap.size]? =some (.cells #[.int .i64 s.1,.int .i64 s.2.1,.int .i64 s.2.2] 87)) (fuel:=3) [0,1,2,4,5] (by kernel_rfl) (by kernel_rfl) (by kernel_rfl) (by kernel_rfl) D (fun _=>?_)
   iterate 5 (refine⟨_,rfl,?_⟩;(first | refine⟨undef,Or.inr ⟨by rfl,rfl⟩,?_⟩ | (apply Exists.intro;refine⟨Or.inl ⟨by rfl,fun w' x=>?_⟩,?_⟩;(focus (obtain⟨t0,t1,t2,-,-,-⟩:=ZN x;go_simp<;>with_reducible rfl))));simp only [Act.put,tkgZ])
   rw [hu]
   clear hu D
   refine Zc 3 (by kernel_rfl) rfl (fun K i=>?_)
   go_simp
   refine i.out _ _ a9 (fun _=>?_)
   clear i K k5
   refine Zz 1 [6] (by kernel_rfl) (by kernel_rfl) (by kernel_rfl) a9 ?_
   iterate 1 (refine⟨_,rfl,?_⟩;(first | refine⟨undef,Or.inr ⟨by rfl,rfl⟩,?_⟩ | (apply Exists.intro;refine⟨Or.inl ⟨by rfl,fun w' x=>?_⟩,?_⟩;(focus (go_simp<;>with_reducible rfl))));simp only [Act.put,tkgZ])
   have f0:=World.ownsRow.frozenAt M.out (f*3)
   have f1:=World.ownsRow.frozenAt M.out (f*3+1)
   have f2:=World.ownsRow.frozenAt M.out (f*3+2)
   obtain⟨c0,c1,c2⟩:=M.out.seg f a1
   rw [Nat.zero_add] at c0 c1 c2
   refine Zc 7 (by kernel_rfl) rfl (fun K i=>?_)
   go_simp
   obtain⟨j,a⟩:∃j,((u.setCell ⟨g,f*3,none⟩ (.int .i64 s.1)).setCell ⟨g,f*3+1,none⟩ (.int .i64 s.2.1)).setCell ⟨g,f*3+2,none⟩ (.int .i64 s.2.2)=j:=⟨_,rfl⟩
   have hz:=M.out.store f s
   have far:∀b,b≠g->j.heap[b]? =y.heap[b]? :=fun b hb=>by
    rw [<-a,Below.heap_setCell _ ⟨g,f*3+2,none⟩ _ b hb,Below.heap_setCell _ ⟨g,f*3+1,none⟩ _ b hb,Below.heap_setCell _ ⟨g,f*3,none⟩ _ b hb,HU.out.2.2.2]
   have l:j.os=y.os/\j.tape=y.tape/\j.output=y.output/\j.heap.size=y.heap.size:=by
    rw [<-a]
    exact⟨HU.out.1,HU.out.2.1,HU.out.2.2.1,by rw [Ze,Ze,Ze,HU.out.2.2.2]⟩
   rw [a] at hz ⊢
   have A:j.heap[w.heap.size]? =some (.cells #[.int .i64 s.1,.int .i64 s.2.1,.int .i64 s.2.2] 87):=(far _ (fun e=>aE e.symm)).trans Q.out
   have C:j.heap[X]? =some (.cells #[.int .i64 wd,.slice am ms.length cm,.int .i64 d,.slice aw ts.length cw,.int .i64 nx,.slice (some ⟨g,0,none⟩) ss.length sc] 44):=(far _ (fun e=>aI e.symm)).trans a5.out
   have HF:Hid (ZjO lo X w.heap.size w j (some ⟨g,0,none⟩) (.int .i64 wd) (.slice am ms.length cm) (.int .i64 d) (.slice aw ts.length cw) (.int .i64 nx) (Za3 s ss)):=by
    have he:Za3 s ss=ss.set f s:=a0.out
    have hl:(ss.set f s).length=ss.length:=by simp
    show ZjO _ _ _ _ _ _ _ _ _ _ _ _
    rw [he]
    refine⟨some ⟨g,0,none⟩,sc,by rw [hl];exact C,Or.inr ⟨g,rfl,hz⟩,fun q B=>Or.inl B,l.1.trans t.out.os,l.2.1.trans t.out.tape,l.2.2.1.trans t.out.output,by rw [l.2.2.2];exact t.out.size,fun b hb hn=>(far b (fun e=>hn (Or.inr (by rw [e])))).trans (t.out.block b hb)⟩
   refine i.out _ _ A (fun _=>?_)
   clear i K hz far l a A C f0 f1 f2 c0 c1 c2 a9 M aJ
   refine wpAnyH_done (by kernel_rfl) ?_ _
   refine NoPanic.normal ?_
   try simp only [Exit.then]
   go_wp2_with fail
   refine bodyPost_ret (v:=.tuple #[]) (by simp [results,Tryz.results52,go_sem]) rfl ?_
   exact⟨rfl,HF.out⟩
 | false=>
   obtain⟨u,hu⟩:∃u,y.drew=u:=⟨_,rfl⟩
   have H:u.os=y.os/\u.tape=y.tape/\u.output=y.output/\u.heap=y.heap:=by rw [<-hu];exact⟨rfl,rfl,rfl,rfl⟩
   have r:Hid (Below w.heap.size w u):=⟨H.1.trans t.out.os,H.2.1.trans t.out.tape,H.2.2.1.trans t.out.output,by rw [H.2.2.2];exact t.out.size,fun b hb=>by rw [H.2.2.2];exact t.out.block b hb⟩
   have D:y.drew.heap[w.heap.size]? =some (.cells #[.int .i64 s.1,.int .i64 s.2.1,.int .i64 s.2.2] 87):=Q.out
   have ak:Hid (u.heap[w.heap.size]? =some (.cells #[.int .i64 s.1,.int .i64 s.2.1,.int .i64 s.2.2] 87)):=by show u.heap[_]? =_;rw [H.2.2.2];exact Q.out
   have R:Hid (u.heap[X]? =some (.cells #[.int .i64 wd,.slice am ms.length cm,.int .i64 d,.slice aw ts.length cw,.int .i64 nx,.slice sa ss.length sc] 44)):=by show u.heap[X]? =_;rw [H.2.2.2];exact a5.out
   have aF:Hid (∀m,Below u.heap.size u m->m.ownsRow lo 87 3 (.slice sa ss.length sc) ss.length (Zg ss)):=fun m L=>by
    rcases HO.out with ⟨rfl,rfl,rfl⟩ | ⟨g,rfl,hr⟩
    · exact⟨rfl,Or.inl ⟨rfl,rfl⟩⟩
    · exact ZR hr ((L.block g (Nat.lt_of_lt_of_le hr.lt.2 r.out.size)).trans (r.out.block g hr.lt.2))
   have n:Hid (∀q,(Value.slice sa ss.length sc).ownBlock=some q->sa=some ⟨q,0,none⟩/\lo<=q/\q<w.heap.size):=fun q B=>by
    rcases HO.out with ⟨rfl,rfl,rfl⟩ | ⟨g,rfl,hr⟩
    · cases B
    · simp [Value.ownBlock] at B
      subst B
      exact⟨rfl,hr.lt⟩
   obtain⟨-,-,-,-,-,k5,-,-⟩:=Zh R.out
   have bi:=r.out.size
   have aH:=n0Z f
   have aj:w.heap.size<u.heap.size:=by rw [H.2.2.2];have:=aP.out.size;have:=Z.out.1;omega
   clear H
   go_upto_region 4 with fail
   refine Zl (S:=fun m=>m.heap[w.heap.size]? =some (.cells #[.int .i64 s.1,.int .i64 s.2.1,.int .i64 s.2.2] 87)) (fuel:=6) [0,1,2,3,5,6] (by kernel_rfl) (by kernel_rfl) (by kernel_rfl) (by kernel_rfl) D (fun _=>?_)
   iterate 6 (refine⟨_,rfl,?_⟩;(first | refine⟨undef,Or.inr ⟨by rfl,rfl⟩,?_⟩ | (apply Exists.intro;refine⟨Or.inl ⟨by rfl,fun w' x=>?_⟩,?_⟩;(focus (obtain⟨t0,t1,t2,-,-,-⟩:=ZN x;go_simp<;>with_reducible rfl))));simp only [Act.put,tkgZ])
   rw [hu]
   clear hu D
   obtain⟨u6,Y⟩:∃u6,u.alloc (.cells #[.int .i64 s.1,.int .i64 s.2.1,.int .i64 s.2.2] 87)=u6:=⟨_,rfl⟩
   have b6:=balZ Y
   have aK:Hid (Zcv u6 u.heap.size (.int .i64 s.1) (.int .i64 s.2.1) (.int .i64 s.2.2) 87):=by show Zcv _ _ _ _ _ _;rw [<-Y];exact heap_alloc_new u _
   have N:Hid (u6.heap[w.heap.size]? =some (.cells #[.int .i64 s.1,.int .i64 s.2.1,.int .i64 s.2.2] 87)):=(b6.block _ aj).trans ak.out
   have af:=Za (ZkP lo sc f u.heap.size sa ss s u6 (aF.out u6 b6) aK.out (fun e=>by have:=n.out _ e;omega) ar (by omega) (by have:=b6.size;have:=Z.out;omega))
   have k:=Za b6
   have ae:=Za Y
   clear b6 Y
   have ay:Hid (∀(K:Act->World->Prop),True):=fun _=>trivial
   clear ay
   refine ZA 4 7 (by kernel_rfl) rfl rfl (fun K i=>?_) (fun K i=>?_)
   · go_simp
     refine i.out _ _ ak.out (fun _=>?_)
     clear i K
     refine Zc 7 (by kernel_rfl) rfl (fun K i=>?_)
     go_simp
     rw [ae.out]
     refine i.out _ _ N.out (fun _=>?_)
     clear i K
     refine Zc 8 (by kernel_rfl) rfl (fun K i=>?_)
     go_simp
     refine af.out.mono ?_
     rintro e E ⟨g,G,rfl,O,c,I⟩
     have ab:=Z.out
     have aN:u.heap.size<=u6.heap.size:=k.out.size
     have a4:∀q,lo<=q/\q<w.heap.size\/¬(Value.slice sa ss.length sc).ownBlock=some q:=fun q=>by
      by_cases e:(Value.slice sa ss.length sc).ownBlock=some q
      · exact Or.inl (n.out q e).2
      · exact Or.inr e
     have z:E.heap[w.heap.size]? =some (.cells #[.int .i64 s.1,.int .i64 s.2.1,.int .i64 s.2.2] 87):=(c.block _ (by omega) (fun e=>by have:=n.out _ e.symm;omega)).trans N.out
     have P:=(k.out.block X (by omega)).trans R.out
     have F:=(c.block X (by omega) (fun e=>T.out (n.out _ e.symm).1)).trans P
     obtain⟨-,-,-,-,-,m5,mf,-⟩:=Zh F
     have a7:=mf 5
     refine i.out _ _ z (fun _=>?_)
     clear i K
     refine Zz 1 [9,10] (by kernel_rfl) (by kernel_rfl) (by kernel_rfl) z ?_
     iterate 2 (refine⟨_,rfl,?_⟩;(first | refine⟨undef,Or.inr ⟨by rfl,rfl⟩,?_⟩ | (apply Exists.intro;refine⟨Or.inl ⟨by rfl,fun w' x=>?_⟩,?_⟩;(focus (go_simp<;>with_reducible rfl))));simp only [Act.put,tkgZ])
     refine Zc 11 (by kernel_rfl) rfl (fun K i=>?_)
     go_simp
     obtain⟨j,a⟩:∃j,E.setCell ⟨X,5,none⟩ (.slice (some ⟨g,0,none⟩) (ss.length+1) G)=j:=⟨_,rfl⟩
     have far:∀b,b≠X->j.heap[b]? =E.heap[b]? :=fun b hb=>by rw [<-a];exact Below.heap_setCell _ ⟨X,5,none⟩ _ b hb
     have a8:j.heap.size=E.heap.size:=by rw [<-a,Ze]
     have l:j.os=E.os/\j.tape=E.tape/\j.output=E.output:=by rw [<-a];exact⟨rfl,rfl,rfl⟩
     have C:j.heap[X]? =some (.cells #[.int .i64 wd,.slice am ms.length cm,.int .i64 d,.slice aw ts.length cw,.int .i64 nx,.slice (some ⟨g,0,none⟩) (ss.length+1) G] 44):=by rw [<-a];exact Zef F
     rw [a]
     have A:j.heap[w.heap.size]? =some (.cells #[.int .i64 s.1,.int .i64 s.2.1,.int .i64 s.2.2] 87):=(far _ (by omega)).trans z
     have aa:g≠X:=by
      rcases I with h | h
      · exact fun e=>T.out (by rw [<-e];exact (n.out _ h).1)
      · omega
     have HF:Hid (ZjO lo X w.heap.size w j sa (.int .i64 wd) (.slice am ms.length cm) (.int .i64 d) (.slice aw ts.length cw) (.int .i64 nx) (Za3 s ss)):=by
      have he:Za3 s ss=ss.take f++s::ss.drop f:=a0.out
      have hl:(ss.take f++s::ss.drop f).length=ss.length+1:=by simp;omega
      show ZjO _ _ _ _ _ _ _ _ _ _ _ _
      rw [he]
      refine⟨some ⟨g,0,none⟩,G,by rw [hl];exact C,Or.inr ⟨g,rfl,ZR O (far g aa)⟩,fun q B=>?_,l.1.trans (c.os.trans (k.out.os.trans r.out.os)),l.2.1.trans (c.tape.trans (k.out.tape.trans r.out.tape)),l.2.2.trans (c.output.trans (k.out.output.trans r.out.output)),by rw [a8];exact Nat.le_trans r.out.size (Nat.le_trans k.out.size c.size),fun b hb hn=>?_⟩
      · injection B with B
        injection B with B
        subst B
        rcases I with h | h
        · exact Or.inl (n.out _ h).1
        · exact Or.inr (by omega)
      · exact (far b (fun e=>hn (Or.inl e))).trans ((c.block b (by omega) (fun e=>hn (Or.inr (n.out _ e.symm).1))).trans ((k.out.block b (by omega)).trans (r.out.block b hb)))
     refine i.out _ _ A (fun _=>?_)
     clear i K O far l a A C z P F m5 mf a7 c I a4
     refine wpAnyH_done (by kernel_rfl) ?_ _
     refine NoPanic.normal ?_
     try simp only [Exit.then]
     go_wp2_with fail
     refine bodyPost_end (v:=.tuple #[]) (by simp [results,Tryz.results52,go_sem]) rfl ?_
     exact⟨rfl,HF.out⟩
   · go_simp
     rw [ae.out]
     refine i.out _ _ N.out (fun _=>?_)
     clear i K
     have aM:=(k.out.cell (p:=⟨X,5,none⟩) (by show X<_;have:=Z.out;omega)).trans k5
     refine Zc 4 (by kernel_rfl) rfl (fun K i=>?_)
     go_simp
     refine i.out _ _ N.out (fun _=>?_)
     clear i K aM
     refine Zc 8 (by kernel_rfl) rfl (fun K i=>?_)
     go_simp
     refine af.out.mono ?_
     rintro e E ⟨g,G,rfl,O,c,I⟩
     have ab:=Z.out
     have aN:u.heap.size<=u6.heap.size:=k.out.size
     have a4:∀q,lo<=q/\q<w.heap.size\/¬(Value.slice sa ss.length sc).ownBlock=some q:=fun q=>by
      by_cases e:(Value.slice sa ss.length sc).ownBlock=some q
      · exact Or.inl (n.out q e).2
      · exact Or.inr e
     have z:E.heap[w.heap.size]? =some (.cells #[.int .i64 s.1,.int .i64 s.2.1,.int .i64 s.2.2] 87):=(c.block _ (by omega) (fun e=>by have:=n.out _ e.symm;omega)).trans N.out
     have P:=(k.out.block X (by omega)).trans R.out
     have F:=(c.block X (by omega) (fun e=>T.out (n.out _ e.symm).1)).trans P
     obtain⟨-,-,-,-,-,m5,mf,-⟩:=Zh F
     have a7:=mf 5
     refine i.out _ _ z (fun _=>?_)
     clear i K
     refine Zz 1 [9,10] (by kernel_rfl) (by kernel_rfl) (by kernel_rfl) z ?_
     iterate 2 (refine⟨_,rfl,?_⟩;(first | refine⟨undef,Or.inr ⟨by rfl,rfl⟩,?_⟩ | (apply Exists.intro;refine⟨Or.inl ⟨by rfl,fun w' x=>?_⟩,?_⟩;(focus (go_simp<;>with_reducible rfl))));simp only [Act.put,tkgZ])
     refine Zc 11 (by kernel_rfl) rfl (fun K i=>?_)
     go_simp
     obtain⟨j,a⟩:∃j,E.setCell ⟨X,5,none⟩ (.slice (some ⟨g,0,none⟩) (ss.length+1) G)=j:=⟨_,rfl⟩
     have far:∀b,b≠X->j.heap[b]? =E.heap[b]? :=fun b hb=>by rw [<-a];exact Below.heap_setCell _ ⟨X,5,none⟩ _ b hb
     have a8:j.heap.size=E.heap.size:=by rw [<-a,Ze]
     have l:j.os=E.os/\j.tape=E.tape/\j.output=E.output:=by rw [<-a];exact⟨rfl,rfl,rfl⟩
     have C:j.heap[X]? =some (.cells #[.int .i64 wd,.slice am ms.length cm,.int .i64 d,.slice aw ts.length cw,.int .i64 nx,.slice (some ⟨g,0,none⟩) (ss.length+1) G] 44):=by rw [<-a];exact Zef F
     rw [a]
     have A:j.heap[w.heap.size]? =some (.cells #[.int .i64 s.1,.int .i64 s.2.1,.int .i64 s.2.2] 87):=(far _ (by omega)).trans z
     have aa:g≠X:=by
      rcases I with h | h
      · exact fun e=>T.out (by rw [<-e];exact (n.out _ h).1)
      · omega
     have HF:Hid (ZjO lo X w.heap.size w j sa (.int .i64 wd) (.slice am ms.length cm) (.int .i64 d) (.slice aw ts.length cw) (.int .i64 nx) (Za3 s ss)):=by
      have he:Za3 s ss=ss.take f++s::ss.drop f:=a0.out
      have hl:(ss.take f++s::ss.drop f).length=ss.length+1:=by simp;omega
      show ZjO _ _ _ _ _ _ _ _ _ _ _ _
      rw [he]
      refine⟨some ⟨g,0,none⟩,G,by rw [hl];exact C,Or.inr ⟨g,rfl,ZR O (far g aa)⟩,fun q B=>?_,l.1.trans (c.os.trans (k.out.os.trans r.out.os)),l.2.1.trans (c.tape.trans (k.out.tape.trans r.out.tape)),l.2.2.trans (c.output.trans (k.out.output.trans r.out.output)),by rw [a8];exact Nat.le_trans r.out.size (Nat.le_trans k.out.size c.size),fun b hb hn=>?_⟩
      · injection B with B
        injection B with B
        subst B
        rcases I with h | h
        · exact Or.inl (n.out _ h).1
        · exact Or.inr (by omega)
      · exact (far b (fun e=>hn (Or.inl e))).trans ((c.block b (by omega) (fun e=>hn (Or.inr (n.out _ e.symm).1))).trans ((k.out.block b (by omega)).trans (r.out.block b hb)))
     refine i.out _ _ A (fun _=>?_)
     clear i K O far l a A C z P F m5 mf a7 c I a4
     refine wpAnyH_done (by kernel_rfl) ?_ _
     refine NoPanic.normal ?_
     try simp only [Exit.then]
     go_wp2_with fail
     refine bodyPost_end (v:=.tuple #[]) (by simp [results,Tryz.results52,go_sem]) rfl ?_
     exact⟨rfl,HF.out⟩
def Zff(ss:List Zv)(cl sq kd id:Int)(p:List Int):Bool:=cmB cl sq kd id p && (sq ==(ZbW cl ss).2.1+1)
def apS(s:St5)(ss:List Zv)(cl sq kd id:Int)(p:List Int):St5:=if Zff ss cl sq kd id p=true then ZeG s kd id p else s
def ZcF(s:St5)(ss:List Zv)(cl sq kd id:Int)(p:List Int):List Zv:=if Zff ss cl sq kd id p=true then Za3 (cl,sq,ZdT s kd id p) ss else ss
def apR(s:St5)(ss:List Zv)(cl sq kd id:Int)(p:List Int):Int:=if cmB cl sq kd id p=true then (if (sq ==(ZbW cl ss).2.1)=true then (ZbW cl ss).2.2 else if (sq ==(ZbW cl ss).2.1+1)=true then ZdT s kd id p else -2) else -2
theorem ZiI{cl:Int}{ss:List Zv}(h:ssB ss=true):0<=(ZbW cl ss).2.1/\(ZbW cl ss).2.1<=1000000:=by
 unfold ZbW
 rcases hh:Zdt cl ss with _ | _
 · simp
 · have a:=(Zl2 h (Ze4 hh).1)
   simp only [if_true]
   omega
theorem Zgi(t:Zv)(ss:List Zv):(Za3 t ss).length<=ss.length+1:=by
 unfold Za3
 split
 · simp
 · simp
   omega
theorem Zat.sm{lo c:Nat}{w w':World}{a:Option Addr}{ss:List Zv}(h:Zat lo w a c ss)(e:∀q,a=some ⟨q,0,none⟩->w'.heap[q]? =w.heap[q]?):Zat lo w' a c ss:=by
 rcases h with h | ⟨g,rfl,hr⟩
 · exact Or.inl h
 · exact Or.inr ⟨g,rfl,ZR hr (e g rfl)⟩
theorem Zat.bnd{lo c:Nat}{w:World}{a:Option Addr}{ss:List Zv}(h:Zat lo w a c ss){q:Nat}(e:a=some ⟨q,0,none⟩):lo<=q/\q<w.heap.size:=by
 rcases h with ⟨rfl,-⟩ | ⟨g,rfl,hr⟩
 · cases e
 · injection e with e
   injection e with e
   subst e
   exact hr.lt
theorem Zat.cap{lo c:Nat}{w:World}{a:Option Addr}{ss:List Zv}(h:Zat lo w a c ss):ss.length<=c:=by
 rcases h with ⟨rfl,rfl,rfl⟩ | ⟨g,rfl,hr⟩
 · exact Nat.le_refl _
 · exact hr.cap
theorem Zat.ow{lo c:Nat}{w:World}{a:Option Addr}{ss:List Zv}(h:Zat lo w a c ss)(hn:ss.length<=1048576):Ow 56 58 (fun q=>a=some ⟨q,0,none⟩) w (.slice a ss.length c) (3*ss.length):=by
 rcases h with ⟨rfl,rfl,rfl⟩ | ⟨g,rfl,hr⟩
 · exact (Zm3 0 w).mono (fun b d=>by cases d) (fun b d=>d.elim)
 · exact (Zom hr hn).mono (fun b d=>by
    injection d with d
    injection d with d
    subst d
    exact hr.lt.2) (fun b d=>by rw [d])
theorem Zat.view{lo c:Nat}{w w':World}{a:Option Addr}{ss:List Zv}(h:Zat lo w a c ss)(hs:Sta (fun q=>a=some ⟨q,0,none⟩) w w'):Zm w' a ss:=by
 rcases h with ⟨rfl,rfl,rfl⟩ | ⟨g,rfl,hr⟩
 · exact Or.inl rfl
 · exact (ZR hr (hs.2 g rfl)).view
theorem OwK.sto{lo hi g:Nat}{w:World}{vt:Value}{ms:List Mk}{ts:List Wb}(wd d nx:Int)(h:OwK lo hi w g vt ms ts)(h60:ms.length<=60)(hat:∀x∈ms,x.2.length<=4)(hh:hi<=w.heap.size):
 StO true (Btw lo hi) w (.agg #[.int .i64 wd,.slice (some ⟨g,0,none⟩) ms.length ms.length,.int .i64 d,vt,.int .i64 nx]) wd ms d ts nx:=by
 obtain⟨l,G,a,p,o,i,m⟩:=h
 have j:=ZbO p
 have k:l.length=ms.length:=by rw [<-a,ZI]
 have e:=Zc7 j (by omega) (by rw [a];exact hat)
 rw [k,a] at e
 refine StO.of wd d nx (fun _=>e) (Nat.le_trans (ZcJ _ 60 4 h60 hat) (by omega)) (Nat.le_refl _) (fun q n=>?_) o (fun b c=>Nat.lt_of_lt_of_le c.2 hh) (fun b c=>⟨(i b c).1,(i b c).2.1⟩) (fun b c=>m b c) (fun b c f=>(i b c).2.2 f)
 have:=(Zcq j n).view
 rw [a] at this
 exact this
def DkP(S:Nat->Prop)(w:World)(v:Value)(s:St5)(ss:List Zv):Prop:=DkO true S w v s.wd s.ms s.d s.ts s.nx ss
theorem ZlC{F:Nat->Prop}{Z N lo c cm cw:Nat}{w:World}{am aw a:Option Addr}{s:St5}{ss:List Zv}(hst:s.Out F w (.agg #[.int .i64 s.wd,.slice am s.ms.length cm,.int .i64 s.d,.slice aw s.ts.length cw,.int .i64 s.nx]))(h:Zat lo w a c ss)(hn:ss.length<=9)(hF:∀b,F b->Z<=b)(hlo:Z<=lo)(hd:∀b,F b->a≠some ⟨b,0,none⟩)(hN:w.heap.size=N):
 DkP (Btw Z N) w (.agg #[.int .i64 s.wd,.slice am s.ms.length cm,.int .i64 s.d,.slice aw s.ts.length cw,.int .i64 s.nx,.slice a ss.length c]) s ss:=by
 subst hN
 exact DkO.of hst (fun _=>h.ow (by omega)) (K:=3*ss.length) (by omega) h.cap (fun g k=>h.view k) (fun b e=>e.2) (fun b e=>⟨hF b e,StO.bnd hst b e⟩) (fun b e=>⟨Nat.le_trans hlo (h.bnd e).1,(h.bnd e).2⟩) (fun b e f=>hd b e f)
theorem ZjP{Z N lo hi g c:Nat}{w:World}{ta a:Option Addr}{tc:Nat}{s:St5}{ss:List Zv}(hk:OwK lo hi w g (.slice ta s.ts.length tc) s.ms s.ts)(h:Zat hi w a c ss)(h60:s.ms.length<=60)(hat:∀x∈s.ms,x.2.length<=4)(hh:hi<=w.heap.size)(hlh:lo<=hi)(hn:ss.length<=9)(hlo:Z<=lo)(hN:w.heap.size=N):
 DkP (Btw Z N) w (.agg #[.int .i64 s.wd,.slice (some ⟨g,0,none⟩) s.ms.length s.ms.length,.int .i64 s.d,.slice ta s.ts.length tc,.int .i64 s.nx,.slice a ss.length c]) s ss:=
 ZlC (F:=Btw lo hi) (hk.sto s.wd s.d s.nx h60 hat hh) h hn (fun b hb=>Nat.le_trans hlo hb.1) (Nat.le_trans hlo hlh) (fun b hb e=>by have:=(h.bnd e).1;have:=hb.2;omega) hN
theorem DkP.sm{S:Nat->Prop}{w w':World}{v:Value}{s:St5}{ss:List Zv}(h:DkP S w v s ss)(k:Sta S w w'):DkP S w' v s ss:=DkO.sm h k
theorem Zoz{w:World}{q:Nat}{x y z x' y' z':Value}{t:TypeId}(h:w.heap[q]? =some (.cells #[x,y,z] t)):(((w.setCell ⟨q,0,none⟩ x').setCell ⟨q,1,none⟩ y').setCell ⟨q,2,none⟩ z').heap[q]? =some (.cells #[x',y',z'] t):=by
 simp [World.setCell,Array.getElem?_modify,h]
theorem ZoA{w:World}{q b:Nat}{x' y' z':Value}(h:b≠q):(((w.setCell ⟨q,0,none⟩ x').setCell ⟨q,1,none⟩ y').setCell ⟨q,2,none⟩ z').heap[b]? =w.heap[b]? :=by
 rw [Below.heap_setCell _ ⟨q,2,none⟩ _ b h,Below.heap_setCell _ ⟨q,1,none⟩ _ b h,Below.heap_setCell _ ⟨q,0,none⟩ _ b h]
theorem ZeZ{W0 U V:World}{Ob Mb g lo hi n1 tc sc:Nat}{ta sa:Option Addr}{wd d nx:Int}{ms:List Mk}{ts:List Wb}{ss:List Zv}(hO:U.heap[Ob]? =some (.cells #[.int .i64 0,.slice none 0 0,.int .i64 0,.slice none 0 0,.int .i64 0,.slice none 0 0] 44))(hM:U.heap[Mb]? =some (.cells #[.int .i64 0,.int .i64 0,.int .i64 0] 87))(hok:OwK lo hi U g (.slice ta ts.length tc) ms ts)(hso:Zat hi U sa sc ss)(hsb:∀q,sa=some ⟨q,0,none⟩->hi<=q/\q<n1)(h1:W0.heap.size<=Ob)(h2:Ob≠Mb)(h3:¬(lo<=Ob/\Ob<n1))(h4:lo<=hi/\hi<=n1)(BU:Below W0.heap.size W0 U)(hV:(((((U.setCell ⟨Ob,0,none⟩ (.int .i64 wd)).setCell ⟨Ob,1,none⟩ (.slice (some ⟨g,0,none⟩) ms.length ms.length)).setCell ⟨Ob,2,none⟩ (.int .i64 d)).setCell ⟨Ob,3,none⟩ (.slice ta ts.length tc)).setCell ⟨Ob,4,none⟩ (.int .i64 nx)).setCell ⟨Ob,5,none⟩ (.slice sa ss.length sc)=V):
 V.heap[Ob]? =some (.cells #[.int .i64 wd,.slice (some ⟨g,0,none⟩) ms.length ms.length,.int .i64 d,.slice ta ts.length tc,.int .i64 nx,.slice sa ss.length sc] 44)/\V.heap[Mb]? =some (.cells #[.int .i64 0,.int .i64 0,.int .i64 0] 87)/\OwK lo hi V g (.slice ta ts.length tc) ms ts/\Zat hi V sa sc ss/\V.heap.size=U.heap.size/\Below W0.heap.size W0 V:=by
 have far:∀b,b≠Ob->V.heap[b]? =U.heap[b]? :=fun b a=>by rw [<-hV];exact Zau a
 have c:V.heap.size=U.heap.size:=by rw [<-hV];simp [World.setCell]
 exact⟨by rw [<-hV];exact Zaf hO,(far Mb (fun e=>h2 e.symm)).trans hM,hok.sm (by omega) (fun b x y=>far b (by omega)),hso.sm (fun q e=>far q (by have:=hsb q e;omega)),c,by rw [<-hV];exact ((((((BU.setCell (p:=⟨Ob,0,none⟩) h1 _).setCell (p:=⟨Ob,1,none⟩) h1 _).setCell (p:=⟨Ob,2,none⟩) h1 _).setCell (p:=⟨Ob,3,none⟩) h1 _).setCell (p:=⟨Ob,4,none⟩) h1 _).setCell (p:=⟨Ob,5,none⟩) h1 _)⟩
theorem Ze0{W0 U V:World}{Ob Mb g lo hi n1 tc sc:Nat}{ta sa:Option Addr}{wd d nx la lb lc:Int}{ms:List Mk}{ts:List Wb}{ss:List Zv}(hO:U.heap[Ob]? =some (.cells #[.int .i64 wd,.slice (some ⟨g,0,none⟩) ms.length ms.length,.int .i64 d,.slice ta ts.length tc,.int .i64 nx,.slice sa ss.length sc] 44))(hM:U.heap[Mb]? =some (.cells #[.int .i64 0,.int .i64 0,.int .i64 0] 87))(hok:OwK lo hi U g (.slice ta ts.length tc) ms ts)(hso:Zat hi U sa sc ss)(hsb:∀q,sa=some ⟨q,0,none⟩->hi<=q/\q<n1)(h1:W0.heap.size<=Mb)(h2:Ob≠Mb)(h3:¬(lo<=Mb/\Mb<n1))(h4:lo<=hi/\hi<=n1)(BU:Below W0.heap.size W0 U)(hV:((U.setCell ⟨Mb,0,none⟩ (.int .i64 la)).setCell ⟨Mb,1,none⟩ (.int .i64 lb)).setCell ⟨Mb,2,none⟩ (.int .i64 lc)=V):
 V.heap[Ob]? =some (.cells #[.int .i64 wd,.slice (some ⟨g,0,none⟩) ms.length ms.length,.int .i64 d,.slice ta ts.length tc,.int .i64 nx,.slice sa ss.length sc] 44)/\V.heap[Mb]? =some (.cells #[.int .i64 la,.int .i64 lb,.int .i64 lc] 87)/\OwK lo hi V g (.slice ta ts.length tc) ms ts/\Zat hi V sa sc ss/\V.heap.size=U.heap.size/\Below W0.heap.size W0 V:=by
 have far:∀b,b≠Mb->V.heap[b]? =U.heap[b]? :=fun b a=>by rw [<-hV];exact ZoA a
 have c:V.heap.size=U.heap.size:=by rw [<-hV,Ze,Ze,Ze]
 exact⟨(far Ob h2).trans hO,by rw [<-hV];exact Zoz hM,hok.sm (by omega) (fun b x y=>far b (by omega)),hso.sm (fun q e=>far q (by have:=hsb q e;omega)),c,by rw [<-hV];exact (((BU.setCell (p:=⟨Mb,0,none⟩) h1 _).setCell (p:=⟨Mb,1,none⟩) h1 _).setCell (p:=⟨Mb,2,none⟩) h1 _)⟩
def Ap3(W0 wx:World)(wd d nx la lb lc:Int)(ms:List Mk)(ts:List Wb)(ss:List Zv)(v b:Value):Prop:=
 ∃Ob Mb g ta tc sa sc lo hi n1,v=.pointer (some ⟨Ob,0,none⟩)/\b=.pointer (some ⟨Mb,0,none⟩)/\wx.heap[Ob]? =some (.cells #[.int .i64 wd,.slice (some ⟨g,0,none⟩) ms.length ms.length,.int .i64 d,.slice ta ts.length tc,.int .i64 nx,.slice sa ss.length sc] 44)/\wx.heap[Mb]? =some (.cells #[.int .i64 la,.int .i64 lb,.int .i64 lc] 87)/\OwK lo hi wx g (.slice ta ts.length tc) ms ts/\Zat hi wx sa sc ss/\(∀q,sa=some ⟨q,0,none⟩->hi<=q/\q<n1)/\(W0.heap.size<=lo/\lo<=hi/\hi<=n1/\n1<=wx.heap.size/\W0.heap.size<=Ob/\W0.heap.size<=Mb/\Ob≠Mb/\¬(lo<=Ob/\Ob<n1)/\¬(lo<=Mb/\Mb<n1)/\Ob<wx.heap.size/\Mb<wx.heap.size)/\Below W0.heap.size W0 wx
def Ap10(w4 wx:World)(t:St5)(rr:Int)(v b:Value):Prop:=
 ∃Sb am' cm' aw' cw' m0 m1,v=.pointer (some ⟨Sb,0,none⟩)/\b=.int .i64 rr/\wx.heap[Sb]? =some (.cells #[.int .i64 t.wd,.slice am' t.ms.length cm',.int .i64 t.d,.slice aw' t.ts.length cw',.int .i64 t.nx] 41)/\t.Out (Btw m0 m1) wx (.agg #[.int .i64 t.wd,.slice am' t.ms.length cm',.int .i64 t.d,.slice aw' t.ts.length cw',.int .i64 t.nx])/\(w4.heap.size<=m0/\m0<=m1/\m1<=wx.heap.size/\w4.heap.size<=Sb/\Sb<wx.heap.size/\¬(m0<=Sb/\Sb<m1))/\Below w4.heap.size w4 wx
theorem ZlE(am aw aq ap:Option Addr)(cm cw cs cp:Nat)(wd d nx cl sq kd id:Int)(ms:List Mk)(ts:List Wb)(ss:List Zv)(p:List Int)(w:World)(hm:Zo w am ms)(hv:Zp true w aw ts)(hs:Zm w aq ss)(hp:Zy w ap p)(hpl:p.length<=1048576)(hsm:Z0 ms ts)(hdk:dkB wd ms d ts nx ss=true):
 Calls Tryz.prog 12 #[.agg #[.int .i64 wd,.slice am ms.length cm,.int .i64 d,.slice aw ts.length cw,.int .i64 nx,.slice aq ss.length cs],.agg #[.int .i64 cl,.int .i64 sq,.int .i64 kd,.int .i64 id,.slice ap p.length cp]] w fun e w'=>∃x,e=.returned (.tuple #[x,.int .i64 (apR ⟨wd,ms,d,ts,nx⟩ ss cl sq kd id p)])/\DkP (Btw w.heap.size w'.heap.size) w' x (apS ⟨wd,ms,d,ts,nx⟩ ss cl sq kd id p) (ZcF ⟨wd,ms,d,ts,nx⟩ ss cl sq kd id p)/\Below w.heap.size w w':=by
 obtain⟨cF,j⟩:stB wd ms d ts nx=true/\ssB ss=true:=by unfold dkB at hdk;simpa using hdk
 have cg:ss.length<=8:=((ZbF ss).1 j).1
 have d6:=ZhL j
 obtain⟨d8,c,-,-⟩:=ZaY cF
 obtain⟨W1,bI⟩:∃W,w.alloc (.cells #[.int .i64 wd,.slice am ms.length cm,.int .i64 d,.slice aw ts.length cw,.int .i64 nx,.slice aq ss.length cs] 44)=W:=⟨_,rfl⟩
 obtain⟨W2,bR⟩:∃W,W1.alloc (.cells #[.int .i64 cl,.int .i64 sq,.int .i64 kd,.int .i64 id,.slice ap p.length cp] 48)=W:=⟨_,rfl⟩
 obtain⟨W,hW⟩:∃W,W2.alloc (.cells #[.int .i64 0,.slice none 0 0,.int .i64 0,.slice none 0 0,.int .i64 0,.slice none 0 0] 44)=W:=⟨_,rfl⟩
 have s1:=salZ bI
 have s2:W2.heap.size=w.heap.size+1+1:=by rw [<-bR];simp [s1]
 have s3:W.heap.size=w.heap.size+1+1+1:=by rw [<-hW];simp [s2]
 have b1:=balZ bI
 have b2:=balZ bR
 have b3:=balZ hW
 have hD:W.heap[w.heap.size]? =some (.cells #[.int .i64 wd,.slice am ms.length cm,.int .i64 d,.slice aw ts.length cw,.int .i64 nx,.slice aq ss.length cs] 44):=(b3.block _ (by omega)).trans ((b2.block _ (by omega)).trans (by rw [<-bI];exact heap_alloc_new w _))
 have hC:W.heap[w.heap.size+1]? =some (.cells #[.int .i64 cl,.int .i64 sq,.int .i64 kd,.int .i64 id,.slice ap p.length cp] 48):=(b3.block _ (by omega)).trans (by rw [<-bR,<-s1];exact heap_alloc_new W1 _)
 have hR:=nal2Z hW s2
 have bA:=Zb (Zb b1 b2) b3
 have HB:=Za bA
 have br:=Za s3
 have dQ:=Za hD
 have dW:=Za hC
 have dN:=Za hR
 have bP:=Za (fun (I:World) (L:Below w.heap.size w I)=>(⟨hm.next L,hv.next L,hs.next L,hp.next L⟩:Zo I am ms/\Zp true I aw ts/\Zm I aq ss/\Zy I ap p))
 have HC:=Za (ZjX am aw aq cm cw cs wd ms d ts nx ss W (hm.next bA) (hv.next bA) (hs.next bA) hsm (by omega))
 rw [hdk] at HC
 have b6:=Za (And.intro cF (And.intro hsm (And.intro d8 c)))
 have aY:=Za (And.intro j (And.intro cg d6))
 have d7:=Za hpl
 obtain⟨k0,k1,k2,k3,k4,k5,-,-⟩:=Zh hD
 have dw:Hid _:=aw3Z bI bR hW
 clear hm hv hs hp hpl hsm hdk cF j d6 d8 c bI bR hW s1 s2 s3 b1 b2 b3 hD hC hR bA cg
 go_enter Tryz.func12,Tryz.ntmps12
 go_upto_region 1 with fail
 rw [dw.out]
 clear dw
 go_wp2_with fail
 refine HC.out.mono ?_
 rintro e W0 ⟨rfl,L1⟩
 clear k0 k1 k2 k3 k4 k5 HC
 have eJ:=L1.size
 have aZ:=Za L1
 have cC:=Za (Zb HB.out L1)
 have bs:Hid (∀I,Below W0.heap.size W0 I->I.heap[w.heap.size]? =some (.cells #[.int .i64 wd,.slice am ms.length cm,.int .i64 d,.slice aw ts.length cw,.int .i64 nx,.slice aq ss.length cs] 44)/\I.heap[w.heap.size+1]? =some (.cells #[.int .i64 cl,.int .i64 sq,.int .i64 kd,.int .i64 id,.slice ap p.length cp] 48)/\I.heap[w.heap.size+1+1]? =some (.cells #[.int .i64 0,.slice none 0 0,.int .i64 0,.slice none 0 0,.int .i64 0,.slice none 0 0] 44)):=fun I L=>by
  have h:=br.out
  have hz:=aZ.out.size
  exact⟨(L.block _ (by omega)).trans ((aZ.out.block _ (by omega)).trans dQ.out),(L.block _ (by omega)).trans ((aZ.out.block _ (by omega)).trans dW.out),(L.block _ (by omega)).trans ((aZ.out.block _ (by omega)).trans dN.out)⟩
 have bz:Hid (∀I,Below W0.heap.size W0 I->Calls Tryz.prog 48 #[.agg #[.int .i64 wd,.slice am ms.length cm,.int .i64 d,.slice aw ts.length cw,.int .i64 nx,.slice aq ss.length cs]] I fun e w'=>∃g ta tc Z sc lo hi,e=.returned (.agg #[.int .i64 wd,.slice (some ⟨g,0,none⟩) ms.length ms.length,.int .i64 d,.slice ta ts.length tc,.int .i64 nx,.slice Z ss.length sc])/\I.heap.size<=lo/\lo<=hi/\hi<=w'.heap.size/\OwK lo hi w' g (.slice ta ts.length tc) ms ts/\Zat hi w' Z sc ss/\Below I.heap.size I w'):=fun I L=>by
  obtain⟨x1,x2,x3,-⟩:=bP.out I (Zb cC.out L)
  exact Znl am aw aq cm cw cs wd d nx ms ts ss I x1 x2 x3 b6.out.1 b6.out.2.1 (by have:=aY.out.2.1;omega)
 obtain⟨la,lb,lc,de⟩:∃la lb lc,ZbW cl ss=(la,lb,lc):=⟨_,_,_,rfl⟩
 have bC:=Za de
 have aJ:Hid (∀I,Below W0.heap.size W0 I->Calls Tryz.prog 49 #[.agg #[.int .i64 wd,.slice am ms.length cm,.int .i64 d,.slice aw ts.length cw,.int .i64 nx,.slice aq ss.length cs],.int .i64 cl] I fun e w'=>e=.returned (.agg #[.int .i64 la,.int .i64 lb,.int .i64 lc])/\Below I.heap.size I w'):=fun I L=>by
  have h:=iLast am aw aq cm cw cs wd d nx cl ms ts ss I (bP.out I (Zb cC.out L)).2.2.1 aY.out.2.2 (by have:=aY.out.2.1;omega)
  rw [bC.out] at h
  exact h
 have cJ:=Za ((Below.refl W0.heap.size W0).drew)
 clear L1 de
 go_upto_region 3 with fail
 go_cut [6,7] from 14 to 19 (fun v b wx=>Ap3 W0 wx wd d nx la lb lc ms ts ss v b)
 case first=>
  refine Zl (S:=fun I=>Below W0.heap.size W0 I) (fuel:=6) [0,2,3,4] (by kernel_rfl) (by kernel_rfl) (by kernel_rfl) (by kernel_rfl) cJ.out (fun _=>?_)
  iterate 4 (refine⟨_,rfl,?_⟩;apply Exists.intro;refine⟨Or.inl ⟨by rfl,fun w' aK=>?_⟩,?_⟩;(focus (obtain⟨hd,hc,-⟩:=bs.out w' aK;obtain⟨e0,e1,e2,e3,e4,e5,-,-⟩:=Zh hd;obtain⟨c0,c1,c2,c3,c4,-,-⟩:=Zk hc;go_simp<;>with_reducible rfl));simp only [Act.put,tkgZ])
  obtain⟨u0,bo⟩:∃w0,W0.drew=w0:=⟨_,rfl⟩
  have cb:Below W0.heap.size W0 u0:=by rw [<-bo];exact cJ.out
  have eM:W0.heap.size<=u0.heap.size:=by rw [<-bo];exact Nat.le_refl _
  rw [bo]
  clear bo
  refine Zb3 1 6 7 (by kernel_rfl) rfl rfl rfl (fun K f=>?_) (fun K f=>?_) (fun K f=>?_)
  · go_simp
    refine (bz.out u0 cb).mono ?_
    rintro e u1 ⟨g,ta,tc,Z,sc,lo,hi,rfl,cc,c6,b8,c,a,ba⟩
    have df:=ba.size
    have j:∀q,Z=some ⟨q,0,none⟩->hi<=q/\q<u1.heap.size:=fun q e=>a.bnd e
    obtain⟨n1,an⟩:∃n1,u1.heap.size=n1:=⟨_,rfl⟩
    have b9:u1.heap.size=n1:=an
    rw [an] at j b8
    have ca:n1<=u1.heap.size/\u0.heap.size<=n1:=by omega
    clear an b9
    have aC:=Zb cb ba
    refine f.out _ _ aC (fun _=>?_)
    clear f K ba 
    refine Zb3 5 6 7 (by kernel_rfl) rfl rfl rfl (fun K f=>?_) (fun K f=>?_) (fun K f=>?_)
    · go_simp
      refine (aJ.out u1 aC).mono ?_
      rintro e u2 ⟨rfl,Q⟩
      have bx:=Q.size
      have R:=Zb aC Q
      replace c:=c.sm (w':=u2) (by omega) (fun b _ h2=>Q.block b (by omega))
      replace a:=a.sm (w':=u2) (fun q e=>Q.block q (by have:=j q e;omega))
      refine f.out _ _ R (fun _=>?_)
      clear f K Q 
      refine ZA 6 7 (by kernel_rfl) rfl rfl (fun K f=>?_) (fun K f=>?_)
      · go_simp
        obtain⟨u3,H⟩:∃w0,u2.alloc (.cells #[.int .i64 0,.slice none 0 0,.int .i64 0,.slice none 0 0,.int .i64 0,.slice none 0 0] 44)=w0:=⟨_,rfl⟩
        have k:=balZ H
        obtain⟨r,A⟩:∃q,u2.heap.size=q:=⟨_,rfl⟩
        have m:=nal2Z H A
        have aP:=altZ H
        have bl:u2.heap.size<=r/\r<u3.heap.size:=by omega
        first | rw [H] | skip
        first | rw [A] | skip
        have y:=Zb R k
        replace c:=c.sm (w':=u3) (by omega) (fun b _ h2=>k.block b (by omega))
        replace a:=a.sm (w':=u3) (fun q e=>k.block q (by have:=j q e;omega))
        refine f.out _ _ y (fun _=>?_)
        clear f K k H A
        refine Zc 7 (by kernel_rfl) rfl (fun K f=>?_)
        go_simp
        generalize G:World.alloc _ _=u4
        have i:=balZ G
        obtain⟨z,B⟩:∃q,u3.heap.size=q:=⟨_,rfl⟩
        have n:=nal2Z G B
        have aW:=altZ G
        have bm:u3.heap.size<=z/\z<u4.heap.size:=by omega
        first | rw [G] | skip
        first | rw [B] | skip
        have E:=Zb y i
        replace m:=(i.block r (by omega)).trans m
        replace c:=c.sm (w':=u4) (by omega) (fun b _ h2=>i.block b (by omega))
        replace a:=a.sm (w':=u4) (fun q e=>i.block q (by have:=j q e;omega))
        refine f.out _ _ E (fun _=>?_)
        clear f K i G B
        refine Zc 8 (by kernel_rfl) rfl (fun K f=>?_)
        obtain⟨r0,r1,r2,r3,r4,r5,l,U⟩:=Zh m
        have J:=l 0
        have P:=l 1
        have O:=l 2
        have M:=l 3
        have N:=l 4
        have T:=l 5
        go_simp
        generalize hu5:World.setCell _ _ _=u5
        obtain⟨m,n,c,a,aX,F⟩:=ZeZ m n c a j (by omega) (by omega) (by omega) (by omega) E hu5
        refine f.out _ _ F (fun _=>?_)
        clear f K hu5 l r0 r1 r2 r3 r4 r5 J P O M N T U
        refine Zc 9 (by kernel_rfl) rfl (fun K f=>?_)
        obtain⟨x0,x1,x2,aa,ab,a8⟩:=ZN n
        go_simp
        generalize hu6:World.setCell _ _ _=u6
        obtain⟨m,n,c,a,aV,C⟩:=Ze0 m n c a j (by omega) (by omega) (by omega) (by omega) F hu6
        refine f.out _ _ C (fun _=>?_)
        clear f K hu6 x0 x1 x2 aa ab a8
        refine wpAnyH_done (by kernel_rfl) ?_ _
        refine NoPanic.normal ?_
        try simp only [Exit.then]
        go_wp2_with fail
        go_meet
        exact⟨r,z,g,ta,tc,Z,sc,lo,hi,n1,rfl,rfl,m,n,c,a,j,⟨by omega,by omega,by omega,by omega,by omega,by omega,by omega,by omega,by omega,by omega,by omega⟩,C⟩
      · go_simp
        obtain⟨u3,H⟩:∃w0,u2.alloc (.cells #[.int .i64 0,.int .i64 0,.int .i64 0] 87)=w0:=⟨_,rfl⟩
        have k:=balZ H
        obtain⟨z,B⟩:∃q,u2.heap.size=q:=⟨_,rfl⟩
        have n:=nal2Z H B
        have aP:=altZ H
        have bm:u2.heap.size<=z/\z<u3.heap.size:=by omega
        first | rw [H] | skip
        first | rw [B] | skip
        have y:=Zb R k
        replace c:=c.sm (w':=u3) (by omega) (fun b _ h2=>k.block b (by omega))
        replace a:=a.sm (w':=u3) (fun q e=>k.block q (by have:=j q e;omega))
        refine f.out _ _ y (fun _=>?_)
        clear f K k H B
        refine Zc 6 (by kernel_rfl) rfl (fun K f=>?_)
        go_simp
        generalize G:World.alloc _ _=u4
        have i:=balZ G
        obtain⟨r,A⟩:∃q,u3.heap.size=q:=⟨_,rfl⟩
        have m:=nal2Z G A
        have aW:=altZ G
        have bl:u3.heap.size<=r/\r<u4.heap.size:=by omega
        first | rw [G] | skip
        first | rw [A] | skip
        have E:=Zb y i
        replace n:=(i.block z (by omega)).trans n
        replace c:=c.sm (w':=u4) (by omega) (fun b _ h2=>i.block b (by omega))
        replace a:=a.sm (w':=u4) (fun q e=>i.block q (by have:=j q e;omega))
        refine f.out _ _ E (fun _=>?_)
        clear f K i G A
        refine Zc 8 (by kernel_rfl) rfl (fun K f=>?_)
        obtain⟨r0,r1,r2,r3,r4,r5,l,U⟩:=Zh m
        have J:=l 0
        have P:=l 1
        have O:=l 2
        have M:=l 3
        have N:=l 4
        have T:=l 5
        go_simp
        generalize hu5:World.setCell _ _ _=u5
        obtain⟨m,n,c,a,aX,F⟩:=ZeZ m n c a j (by omega) (by omega) (by omega) (by omega) E hu5
        refine f.out _ _ F (fun _=>?_)
        clear f K hu5 l r0 r1 r2 r3 r4 r5 J P O M N T U
        refine Zc 9 (by kernel_rfl) rfl (fun K f=>?_)
        obtain⟨x0,x1,x2,aa,ab,a8⟩:=ZN n
        go_simp
        generalize hu6:World.setCell _ _ _=u6
        obtain⟨m,n,c,a,aV,C⟩:=Ze0 m n c a j (by omega) (by omega) (by omega) (by omega) F hu6
        refine f.out _ _ C (fun _=>?_)
        clear f K hu6 x0 x1 x2 aa ab a8
        refine wpAnyH_done (by kernel_rfl) ?_ _
        refine NoPanic.normal ?_
        try simp only [Exit.then]
        go_wp2_with fail
        go_meet
        exact⟨r,z,g,ta,tc,Z,sc,lo,hi,n1,rfl,rfl,m,n,c,a,j,⟨by omega,by omega,by omega,by omega,by omega,by omega,by omega,by omega,by omega,by omega,by omega⟩,C⟩
    · go_simp
      obtain⟨u2,a7⟩:∃w0,u1.alloc (.cells #[.int .i64 0,.slice none 0 0,.int .i64 0,.slice none 0 0,.int .i64 0,.slice none 0 0] 44)=w0:=⟨_,rfl⟩
      have Q:=balZ a7
      obtain⟨r,A⟩:∃q,u1.heap.size=q:=⟨_,rfl⟩
      have m:=nal2Z a7 A
      have bx:=altZ a7
      have bl:u1.heap.size<=r/\r<u2.heap.size:=by omega
      first | rw [a7] | skip
      first | rw [A] | skip
      have R:=Zb aC Q
      replace c:=c.sm (w':=u2) (by omega) (fun b _ h2=>Q.block b (by omega))
      replace a:=a.sm (w':=u2) (fun q e=>Q.block q (by have:=j q e;omega))
      refine f.out _ _ R (fun _=>?_)
      clear f K Q a7 A
      refine ZA 5 7 (by kernel_rfl) rfl rfl (fun K f=>?_) (fun K f=>?_)
      · go_simp
        refine (aJ.out u2 R).mono ?_
        rintro e u3 ⟨rfl,k⟩
        have aP:=k.size
        have y:=Zb R k
        replace m:=(k.block r (by omega)).trans m
        replace c:=c.sm (w':=u3) (by omega) (fun b _ h2=>k.block b (by omega))
        replace a:=a.sm (w':=u3) (fun q e=>k.block q (by have:=j q e;omega))
        refine f.out _ _ y (fun _=>?_)
        clear f K k 
        refine Zc 7 (by kernel_rfl) rfl (fun K f=>?_)
        go_simp
        generalize G:World.alloc _ _=u4
        have i:=balZ G
        obtain⟨z,B⟩:∃q,u3.heap.size=q:=⟨_,rfl⟩
        have n:=nal2Z G B
        have aW:=altZ G
        have bm:u3.heap.size<=z/\z<u4.heap.size:=by omega
        first | rw [G] | skip
        first | rw [B] | skip
        have E:=Zb y i
        replace m:=(i.block r (by omega)).trans m
        replace c:=c.sm (w':=u4) (by omega) (fun b _ h2=>i.block b (by omega))
        replace a:=a.sm (w':=u4) (fun q e=>i.block q (by have:=j q e;omega))
        refine f.out _ _ E (fun _=>?_)
        clear f K i G B
        refine Zc 8 (by kernel_rfl) rfl (fun K f=>?_)
        obtain⟨r0,r1,r2,r3,r4,r5,l,U⟩:=Zh m
        have J:=l 0
        have P:=l 1
        have O:=l 2
        have M:=l 3
        have N:=l 4
        have T:=l 5
        go_simp
        generalize hu5:World.setCell _ _ _=u5
        obtain⟨m,n,c,a,aX,F⟩:=ZeZ m n c a j (by omega) (by omega) (by omega) (by omega) E hu5
        refine f.out _ _ F (fun _=>?_)
        clear f K hu5 l r0 r1 r2 r3 r4 r5 J P O M N T U
        refine Zc 9 (by kernel_rfl) rfl (fun K f=>?_)
        obtain⟨x0,x1,x2,aa,ab,a8⟩:=ZN n
        go_simp
        generalize hu6:World.setCell _ _ _=u6
        obtain⟨m,n,c,a,aV,C⟩:=Ze0 m n c a j (by omega) (by omega) (by omega) (by omega) F hu6
        refine f.out _ _ C (fun _=>?_)
        clear f K hu6 x0 x1 x2 aa ab a8
        refine wpAnyH_done (by kernel_rfl) ?_ _
        refine NoPanic.normal ?_
        try simp only [Exit.then]
        go_wp2_with fail
        go_meet
        exact⟨r,z,g,ta,tc,Z,sc,lo,hi,n1,rfl,rfl,m,n,c,a,j,⟨by omega,by omega,by omega,by omega,by omega,by omega,by omega,by omega,by omega,by omega,by omega⟩,C⟩
      · go_simp
        obtain⟨u3,H⟩:∃w0,u2.alloc (.cells #[.int .i64 0,.int .i64 0,.int .i64 0] 87)=w0:=⟨_,rfl⟩
        have k:=balZ H
        obtain⟨z,B⟩:∃q,u2.heap.size=q:=⟨_,rfl⟩
        have n:=nal2Z H B
        have aP:=altZ H
        have bm:u2.heap.size<=z/\z<u3.heap.size:=by omega
        first | rw [H] | skip
        first | rw [B] | skip
        have y:=Zb R k
        replace m:=(k.block r (by omega)).trans m
        replace c:=c.sm (w':=u3) (by omega) (fun b _ h2=>k.block b (by omega))
        replace a:=a.sm (w':=u3) (fun q e=>k.block q (by have:=j q e;omega))
        refine f.out _ _ y (fun _=>?_)
        clear f K k H B
        refine Zc 5 (by kernel_rfl) rfl (fun K f=>?_)
        go_simp
        refine (aJ.out u3 y).mono ?_
        rintro e u4 ⟨rfl,i⟩
        have aW:=i.size
        have E:=Zb y i
        replace m:=(i.block r (by omega)).trans m
        replace n:=(i.block z (by omega)).trans n
        replace c:=c.sm (w':=u4) (by omega) (fun b _ h2=>i.block b (by omega))
        replace a:=a.sm (w':=u4) (fun q e=>i.block q (by have:=j q e;omega))
        refine f.out _ _ E (fun _=>?_)
        clear f K i 
        refine Zc 8 (by kernel_rfl) rfl (fun K f=>?_)
        obtain⟨r0,r1,r2,r3,r4,r5,l,U⟩:=Zh m
        have J:=l 0
        have P:=l 1
        have O:=l 2
        have M:=l 3
        have N:=l 4
        have T:=l 5
        go_simp
        generalize hu5:World.setCell _ _ _=u5
        obtain⟨m,n,c,a,aX,F⟩:=ZeZ m n c a j (by omega) (by omega) (by omega) (by omega) E hu5
        refine f.out _ _ F (fun _=>?_)
        clear f K hu5 l r0 r1 r2 r3 r4 r5 J P O M N T U
        refine Zc 9 (by kernel_rfl) rfl (fun K f=>?_)
        obtain⟨x0,x1,x2,aa,ab,a8⟩:=ZN n
        go_simp
        generalize hu6:World.setCell _ _ _=u6
        obtain⟨m,n,c,a,aV,C⟩:=Ze0 m n c a j (by omega) (by omega) (by omega) (by omega) F hu6
        refine f.out _ _ C (fun _=>?_)
        clear f K hu6 x0 x1 x2 aa ab a8
        refine wpAnyH_done (by kernel_rfl) ?_ _
        refine NoPanic.normal ?_
        try simp only [Exit.then]
        go_wp2_with fail
        go_meet
        exact⟨r,z,g,ta,tc,Z,sc,lo,hi,n1,rfl,rfl,m,n,c,a,j,⟨by omega,by omega,by omega,by omega,by omega,by omega,by omega,by omega,by omega,by omega,by omega⟩,C⟩
    · go_simp
      obtain⟨u2,a7⟩:∃w0,u1.alloc (.cells #[.int .i64 0,.int .i64 0,.int .i64 0] 87)=w0:=⟨_,rfl⟩
      have Q:=balZ a7
      obtain⟨z,B⟩:∃q,u1.heap.size=q:=⟨_,rfl⟩
      have n:=nal2Z a7 B
      have bx:=altZ a7
      have bm:u1.heap.size<=z/\z<u2.heap.size:=by omega
      first | rw [a7] | skip
      first | rw [B] | skip
      have R:=Zb aC Q
      replace c:=c.sm (w':=u2) (by omega) (fun b _ h2=>Q.block b (by omega))
      replace a:=a.sm (w':=u2) (fun q e=>Q.block q (by have:=j q e;omega))
      refine f.out _ _ R (fun _=>?_)
      clear f K Q a7 B
      refine ZA 5 6 (by kernel_rfl) rfl rfl (fun K f=>?_) (fun K f=>?_)
      · go_simp
        refine (aJ.out u2 R).mono ?_
        rintro e u3 ⟨rfl,k⟩
        have aP:=k.size
        have y:=Zb R k
        replace n:=(k.block z (by omega)).trans n
        replace c:=c.sm (w':=u3) (by omega) (fun b _ h2=>k.block b (by omega))
        replace a:=a.sm (w':=u3) (fun q e=>k.block q (by have:=j q e;omega))
        refine f.out _ _ y (fun _=>?_)
        clear f K k 
        refine Zc 6 (by kernel_rfl) rfl (fun K f=>?_)
        go_simp
        generalize G:World.alloc _ _=u4
        have i:=balZ G
        obtain⟨r,A⟩:∃q,u3.heap.size=q:=⟨_,rfl⟩
        have m:=nal2Z G A
        have aW:=altZ G
        have bl:u3.heap.size<=r/\r<u4.heap.size:=by omega
        first | rw [G] | skip
        first | rw [A] | skip
        have E:=Zb y i
        replace n:=(i.block z (by omega)).trans n
        replace c:=c.sm (w':=u4) (by omega) (fun b _ h2=>i.block b (by omega))
        replace a:=a.sm (w':=u4) (fun q e=>i.block q (by have:=j q e;omega))
        refine f.out _ _ E (fun _=>?_)
        clear f K i G A
        refine Zc 8 (by kernel_rfl) rfl (fun K f=>?_)
        obtain⟨r0,r1,r2,r3,r4,r5,l,U⟩:=Zh m
        have J:=l 0
        have P:=l 1
        have O:=l 2
        have M:=l 3
        have N:=l 4
        have T:=l 5
        go_simp
        generalize hu5:World.setCell _ _ _=u5
        obtain⟨m,n,c,a,aX,F⟩:=ZeZ m n c a j (by omega) (by omega) (by omega) (by omega) E hu5
        refine f.out _ _ F (fun _=>?_)
        clear f K hu5 l r0 r1 r2 r3 r4 r5 J P O M N T U
        refine Zc 9 (by kernel_rfl) rfl (fun K f=>?_)
        obtain⟨x0,x1,x2,aa,ab,a8⟩:=ZN n
        go_simp
        generalize hu6:World.setCell _ _ _=u6
        obtain⟨m,n,c,a,aV,C⟩:=Ze0 m n c a j (by omega) (by omega) (by omega) (by omega) F hu6
        refine f.out _ _ C (fun _=>?_)
        clear f K hu6 x0 x1 x2 aa ab a8
        refine wpAnyH_done (by kernel_rfl) ?_ _
        refine NoPanic.normal ?_
        try simp only [Exit.then]
        go_wp2_with fail
        go_meet
        exact⟨r,z,g,ta,tc,Z,sc,lo,hi,n1,rfl,rfl,m,n,c,a,j,⟨by omega,by omega,by omega,by omega,by omega,by omega,by omega,by omega,by omega,by omega,by omega⟩,C⟩
      · go_simp
        obtain⟨u3,H⟩:∃w0,u2.alloc (.cells #[.int .i64 0,.slice none 0 0,.int .i64 0,.slice none 0 0,.int .i64 0,.slice none 0 0] 44)=w0:=⟨_,rfl⟩
        have k:=balZ H
        obtain⟨r,A⟩:∃q,u2.heap.size=q:=⟨_,rfl⟩
        have m:=nal2Z H A
        have aP:=altZ H
        have bl:u2.heap.size<=r/\r<u3.heap.size:=by omega
        first | rw [H] | skip
        first | rw [A] | skip
        have y:=Zb R k
        replace n:=(k.block z (by omega)).trans n
        replace c:=c.sm (w':=u3) (by omega) (fun b _ h2=>k.block b (by omega))
        replace a:=a.sm (w':=u3) (fun q e=>k.block q (by have:=j q e;omega))
        refine f.out _ _ y (fun _=>?_)
        clear f K k H A
        refine Zc 5 (by kernel_rfl) rfl (fun K f=>?_)
        go_simp
        refine (aJ.out u3 y).mono ?_
        rintro e u4 ⟨rfl,i⟩
        have aW:=i.size
        have E:=Zb y i
        replace m:=(i.block r (by omega)).trans m
        replace n:=(i.block z (by omega)).trans n
        replace c:=c.sm (w':=u4) (by omega) (fun b _ h2=>i.block b (by omega))
        replace a:=a.sm (w':=u4) (fun q e=>i.block q (by have:=j q e;omega))
        refine f.out _ _ E (fun _=>?_)
        clear f K i 
        refine Zc 8 (by kernel_rfl) rfl (fun K f=>?_)
        obtain⟨r0,r1,r2,r3,r4,r5,l,U⟩:=Zh m
        have J:=l 0
        have P:=l 1
        have O:=l 2
        have M:=l 3
        have N:=l 4
        have T:=l 5
        go_simp
        generalize hu5:World.setCell _ _ _=u5
        obtain⟨m,n,c,a,aX,F⟩:=ZeZ m n c a j (by omega) (by omega) (by omega) (by omega) E hu5
        refine f.out _ _ F (fun _=>?_)
        clear f K hu5 l r0 r1 r2 r3 r4 r5 J P O M N T U
        refine Zc 9 (by kernel_rfl) rfl (fun K f=>?_)
        obtain⟨x0,x1,x2,aa,ab,a8⟩:=ZN n
        go_simp
        generalize hu6:World.setCell _ _ _=u6
        obtain⟨m,n,c,a,aV,C⟩:=Ze0 m n c a j (by omega) (by omega) (by omega) (by omega) F hu6
        refine f.out _ _ C (fun _=>?_)
        clear f K hu6 x0 x1 x2 aa ab a8
        refine wpAnyH_done (by kernel_rfl) ?_ _
        refine NoPanic.normal ?_
        try simp only [Exit.then]
        go_wp2_with fail
        go_meet
        exact⟨r,z,g,ta,tc,Z,sc,lo,hi,n1,rfl,rfl,m,n,c,a,j,⟨by omega,by omega,by omega,by omega,by omega,by omega,by omega,by omega,by omega,by omega,by omega⟩,C⟩
  · go_simp
    obtain⟨u1,aS⟩:∃w0,u0.alloc (.cells #[.int .i64 0,.slice none 0 0,.int .i64 0,.slice none 0 0,.int .i64 0,.slice none 0 0] 44)=w0:=⟨_,rfl⟩
    have ba:=balZ aS
    obtain⟨r,A⟩:∃q,u0.heap.size=q:=⟨_,rfl⟩
    have m:=nal2Z aS A
    have df:=altZ aS
    have bl:u0.heap.size<=r/\r<u1.heap.size:=by omega
    first | rw [aS] | skip
    first | rw [A] | skip
    have aC:=Zb cb ba
    refine f.out _ _ aC (fun _=>?_)
    clear f K ba aS A
    refine ZA 1 7 (by kernel_rfl) rfl rfl (fun K f=>?_) (fun K f=>?_)
    · go_simp
      refine (bz.out u1 aC).mono ?_
      rintro e u2 ⟨g,ta,tc,Z,sc,lo,hi,rfl,cc,c6,b8,c,a,Q⟩
      have bx:=Q.size
      have j:∀q,Z=some ⟨q,0,none⟩->hi<=q/\q<u2.heap.size:=fun q e=>a.bnd e
      obtain⟨n1,an⟩:∃n1,u2.heap.size=n1:=⟨_,rfl⟩
      have b9:u2.heap.size=n1:=an
      rw [an] at j b8
      have ca:n1<=u2.heap.size/\u1.heap.size<=n1:=by omega
      clear an b9
      have R:=Zb aC Q
      replace m:=(Q.block r (by omega)).trans m
      refine f.out _ _ R (fun _=>?_)
      clear f K Q 
      refine ZA 5 7 (by kernel_rfl) rfl rfl (fun K f=>?_) (fun K f=>?_)
      · go_simp
        refine (aJ.out u2 R).mono ?_
        rintro e u3 ⟨rfl,k⟩
        have aP:=k.size
        have y:=Zb R k
        replace m:=(k.block r (by omega)).trans m
        replace c:=c.sm (w':=u3) (by omega) (fun b _ h2=>k.block b (by omega))
        replace a:=a.sm (w':=u3) (fun q e=>k.block q (by have:=j q e;omega))
        refine f.out _ _ y (fun _=>?_)
        clear f K k 
        refine Zc 7 (by kernel_rfl) rfl (fun K f=>?_)
        go_simp
        generalize G:World.alloc _ _=u4
        have i:=balZ G
        obtain⟨z,B⟩:∃q,u3.heap.size=q:=⟨_,rfl⟩
        have n:=nal2Z G B
        have aW:=altZ G
        have bm:u3.heap.size<=z/\z<u4.heap.size:=by omega
        first | rw [G] | skip
        first | rw [B] | skip
        have E:=Zb y i
        replace m:=(i.block r (by omega)).trans m
        replace c:=c.sm (w':=u4) (by omega) (fun b _ h2=>i.block b (by omega))
        replace a:=a.sm (w':=u4) (fun q e=>i.block q (by have:=j q e;omega))
        refine f.out _ _ E (fun _=>?_)
        clear f K i G B
        refine Zc 8 (by kernel_rfl) rfl (fun K f=>?_)
        obtain⟨r0,r1,r2,r3,r4,r5,l,U⟩:=Zh m
        have J:=l 0
        have P:=l 1
        have O:=l 2
        have M:=l 3
        have N:=l 4
        have T:=l 5
        go_simp
        generalize hu5:World.setCell _ _ _=u5
        obtain⟨m,n,c,a,aX,F⟩:=ZeZ m n c a j (by omega) (by omega) (by omega) (by omega) E hu5
        refine f.out _ _ F (fun _=>?_)
        clear f K hu5 l r0 r1 r2 r3 r4 r5 J P O M N T U
        refine Zc 9 (by kernel_rfl) rfl (fun K f=>?_)
        obtain⟨x0,x1,x2,aa,ab,a8⟩:=ZN n
        go_simp
        generalize hu6:World.setCell _ _ _=u6
        obtain⟨m,n,c,a,aV,C⟩:=Ze0 m n c a j (by omega) (by omega) (by omega) (by omega) F hu6
        refine f.out _ _ C (fun _=>?_)
        clear f K hu6 x0 x1 x2 aa ab a8
        refine wpAnyH_done (by kernel_rfl) ?_ _
        refine NoPanic.normal ?_
        try simp only [Exit.then]
        go_wp2_with fail
        go_meet
        exact⟨r,z,g,ta,tc,Z,sc,lo,hi,n1,rfl,rfl,m,n,c,a,j,⟨by omega,by omega,by omega,by omega,by omega,by omega,by omega,by omega,by omega,by omega,by omega⟩,C⟩
      · go_simp
        obtain⟨u3,H⟩:∃w0,u2.alloc (.cells #[.int .i64 0,.int .i64 0,.int .i64 0] 87)=w0:=⟨_,rfl⟩
        have k:=balZ H
        obtain⟨z,B⟩:∃q,u2.heap.size=q:=⟨_,rfl⟩
        have n:=nal2Z H B
        have aP:=altZ H
        have bm:u2.heap.size<=z/\z<u3.heap.size:=by omega
        first | rw [H] | skip
        first | rw [B] | skip
        have y:=Zb R k
        replace m:=(k.block r (by omega)).trans m
        replace c:=c.sm (w':=u3) (by omega) (fun b _ h2=>k.block b (by omega))
        replace a:=a.sm (w':=u3) (fun q e=>k.block q (by have:=j q e;omega))
        refine f.out _ _ y (fun _=>?_)
        clear f K k H B
        refine Zc 5 (by kernel_rfl) rfl (fun K f=>?_)
        go_simp
        refine (aJ.out u3 y).mono ?_
        rintro e u4 ⟨rfl,i⟩
        have aW:=i.size
        have E:=Zb y i
        replace m:=(i.block r (by omega)).trans m
        replace n:=(i.block z (by omega)).trans n
        replace c:=c.sm (w':=u4) (by omega) (fun b _ h2=>i.block b (by omega))
        replace a:=a.sm (w':=u4) (fun q e=>i.block q (by have:=j q e;omega))
        refine f.out _ _ E (fun _=>?_)
        clear f K i 
        refine Zc 8 (by kernel_rfl) rfl (fun K f=>?_)
        obtain⟨r0,r1,r2,r3,r4,r5,l,U⟩:=Zh m
        have J:=l 0
        have P:=l 1
        have O:=l 2
        have M:=l 3
        have N:=l 4
        have T:=l 5
        go_simp
        generalize hu5:World.setCell _ _ _=u5
        obtain⟨m,n,c,a,aX,F⟩:=ZeZ m n c a j (by omega) (by omega) (by omega) (by omega) E hu5
        refine f.out _ _ F (fun _=>?_)
        clear f K hu5 l r0 r1 r2 r3 r4 r5 J P O M N T U
        refine Zc 9 (by kernel_rfl) rfl (fun K f=>?_)
        obtain⟨x0,x1,x2,aa,ab,a8⟩:=ZN n
        go_simp
        generalize hu6:World.setCell _ _ _=u6
        obtain⟨m,n,c,a,aV,C⟩:=Ze0 m n c a j (by omega) (by omega) (by omega) (by omega) F hu6
        refine f.out _ _ C (fun _=>?_)
        clear f K hu6 x0 x1 x2 aa ab a8
        refine wpAnyH_done (by kernel_rfl) ?_ _
        refine NoPanic.normal ?_
        try simp only [Exit.then]
        go_wp2_with fail
        go_meet
        exact⟨r,z,g,ta,tc,Z,sc,lo,hi,n1,rfl,rfl,m,n,c,a,j,⟨by omega,by omega,by omega,by omega,by omega,by omega,by omega,by omega,by omega,by omega,by omega⟩,C⟩
    · go_simp
      obtain⟨u2,a7⟩:∃w0,u1.alloc (.cells #[.int .i64 0,.int .i64 0,.int .i64 0] 87)=w0:=⟨_,rfl⟩
      have Q:=balZ a7
      obtain⟨z,B⟩:∃q,u1.heap.size=q:=⟨_,rfl⟩
      have n:=nal2Z a7 B
      have bx:=altZ a7
      have bm:u1.heap.size<=z/\z<u2.heap.size:=by omega
      first | rw [a7] | skip
      first | rw [B] | skip
      have R:=Zb aC Q
      replace m:=(Q.block r (by omega)).trans m
      refine f.out _ _ R (fun _=>?_)
      clear f K Q a7 B
      refine Zc 1 (by kernel_rfl) rfl (fun K f=>?_)
      go_simp
      refine (bz.out u2 R).mono ?_
      rintro e u3 ⟨g,ta,tc,Z,sc,lo,hi,rfl,cc,c6,b8,c,a,k⟩
      have aP:=k.size
      have j:∀q,Z=some ⟨q,0,none⟩->hi<=q/\q<u3.heap.size:=fun q e=>a.bnd e
      obtain⟨n1,an⟩:∃n1,u3.heap.size=n1:=⟨_,rfl⟩
      have b9:u3.heap.size=n1:=an
      rw [an] at j b8
      have ca:n1<=u3.heap.size/\u2.heap.size<=n1:=by omega
      clear an b9
      have y:=Zb R k
      replace m:=(k.block r (by omega)).trans m
      replace n:=(k.block z (by omega)).trans n
      refine f.out _ _ y (fun _=>?_)
      clear f K k 
      refine Zc 5 (by kernel_rfl) rfl (fun K f=>?_)
      go_simp
      refine (aJ.out u3 y).mono ?_
      rintro e u4 ⟨rfl,i⟩
      have aW:=i.size
      have E:=Zb y i
      replace m:=(i.block r (by omega)).trans m
      replace n:=(i.block z (by omega)).trans n
      replace c:=c.sm (w':=u4) (by omega) (fun b _ h2=>i.block b (by omega))
      replace a:=a.sm (w':=u4) (fun q e=>i.block q (by have:=j q e;omega))
      refine f.out _ _ E (fun _=>?_)
      clear f K i 
      refine Zc 8 (by kernel_rfl) rfl (fun K f=>?_)
      obtain⟨r0,r1,r2,r3,r4,r5,l,U⟩:=Zh m
      have J:=l 0
      have P:=l 1
      have O:=l 2
      have M:=l 3
      have N:=l 4
      have T:=l 5
      go_simp
      generalize hu5:World.setCell _ _ _=u5
      obtain⟨m,n,c,a,aX,F⟩:=ZeZ m n c a j (by omega) (by omega) (by omega) (by omega) E hu5
      refine f.out _ _ F (fun _=>?_)
      clear f K hu5 l r0 r1 r2 r3 r4 r5 J P O M N T U
      refine Zc 9 (by kernel_rfl) rfl (fun K f=>?_)
      obtain⟨x0,x1,x2,aa,ab,a8⟩:=ZN n
      go_simp
      generalize hu6:World.setCell _ _ _=u6
      obtain⟨m,n,c,a,aV,C⟩:=Ze0 m n c a j (by omega) (by omega) (by omega) (by omega) F hu6
      refine f.out _ _ C (fun _=>?_)
      clear f K hu6 x0 x1 x2 aa ab a8
      refine wpAnyH_done (by kernel_rfl) ?_ _
      refine NoPanic.normal ?_
      try simp only [Exit.then]
      go_wp2_with fail
      go_meet
      exact⟨r,z,g,ta,tc,Z,sc,lo,hi,n1,rfl,rfl,m,n,c,a,j,⟨by omega,by omega,by omega,by omega,by omega,by omega,by omega,by omega,by omega,by omega,by omega⟩,C⟩
  · go_simp
    obtain⟨u1,aS⟩:∃w0,u0.alloc (.cells #[.int .i64 0,.int .i64 0,.int .i64 0] 87)=w0:=⟨_,rfl⟩
    have ba:=balZ aS
    obtain⟨z,B⟩:∃q,u0.heap.size=q:=⟨_,rfl⟩
    have n:=nal2Z aS B
    have df:=altZ aS
    have bm:u0.heap.size<=z/\z<u1.heap.size:=by omega
    first | rw [aS] | skip
    first | rw [B] | skip
    have aC:=Zb cb ba
    refine f.out _ _ aC (fun _=>?_)
    clear f K ba aS B
    refine ZA 1 6 (by kernel_rfl) rfl rfl (fun K f=>?_) (fun K f=>?_)
    · go_simp
      refine (bz.out u1 aC).mono ?_
      rintro e u2 ⟨g,ta,tc,Z,sc,lo,hi,rfl,cc,c6,b8,c,a,Q⟩
      have bx:=Q.size
      have j:∀q,Z=some ⟨q,0,none⟩->hi<=q/\q<u2.heap.size:=fun q e=>a.bnd e
      obtain⟨n1,an⟩:∃n1,u2.heap.size=n1:=⟨_,rfl⟩
      have b9:u2.heap.size=n1:=an
      rw [an] at j b8
      have ca:n1<=u2.heap.size/\u1.heap.size<=n1:=by omega
      clear an b9
      have R:=Zb aC Q
      replace n:=(Q.block z (by omega)).trans n
      refine f.out _ _ R (fun _=>?_)
      clear f K Q 
      refine ZA 5 6 (by kernel_rfl) rfl rfl (fun K f=>?_) (fun K f=>?_)
      · go_simp
        refine (aJ.out u2 R).mono ?_
        rintro e u3 ⟨rfl,k⟩
        have aP:=k.size
        have y:=Zb R k
        replace n:=(k.block z (by omega)).trans n
        replace c:=c.sm (w':=u3) (by omega) (fun b _ h2=>k.block b (by omega))
        replace a:=a.sm (w':=u3) (fun q e=>k.block q (by have:=j q e;omega))
        refine f.out _ _ y (fun _=>?_)
        clear f K k 
        refine Zc 6 (by kernel_rfl) rfl (fun K f=>?_)
        go_simp
        generalize G:World.alloc _ _=u4
        have i:=balZ G
        obtain⟨r,A⟩:∃q,u3.heap.size=q:=⟨_,rfl⟩
        have m:=nal2Z G A
        have aW:=altZ G
        have bl:u3.heap.size<=r/\r<u4.heap.size:=by omega
        first | rw [G] | skip
        first | rw [A] | skip
        have E:=Zb y i
        replace n:=(i.block z (by omega)).trans n
        replace c:=c.sm (w':=u4) (by omega) (fun b _ h2=>i.block b (by omega))
        replace a:=a.sm (w':=u4) (fun q e=>i.block q (by have:=j q e;omega))
        refine f.out _ _ E (fun _=>?_)
        clear f K i G A
        refine Zc 8 (by kernel_rfl) rfl (fun K f=>?_)
        obtain⟨r0,r1,r2,r3,r4,r5,l,U⟩:=Zh m
        have J:=l 0
        have P:=l 1
        have O:=l 2
        have M:=l 3
        have N:=l 4
        have T:=l 5
        go_simp
        generalize hu5:World.setCell _ _ _=u5
        obtain⟨m,n,c,a,aX,F⟩:=ZeZ m n c a j (by omega) (by omega) (by omega) (by omega) E hu5
        refine f.out _ _ F (fun _=>?_)
        clear f K hu5 l r0 r1 r2 r3 r4 r5 J P O M N T U
        refine Zc 9 (by kernel_rfl) rfl (fun K f=>?_)
        obtain⟨x0,x1,x2,aa,ab,a8⟩:=ZN n
        go_simp
        generalize hu6:World.setCell _ _ _=u6
        obtain⟨m,n,c,a,aV,C⟩:=Ze0 m n c a j (by omega) (by omega) (by omega) (by omega) F hu6
        refine f.out _ _ C (fun _=>?_)
        clear f K hu6 x0 x1 x2 aa ab a8
        refine wpAnyH_done (by kernel_rfl) ?_ _
        refine NoPanic.normal ?_
        try simp only [Exit.then]
        go_wp2_with fail
        go_meet
        exact⟨r,z,g,ta,tc,Z,sc,lo,hi,n1,rfl,rfl,m,n,c,a,j,⟨by omega,by omega,by omega,by omega,by omega,by omega,by omega,by omega,by omega,by omega,by omega⟩,C⟩
      · go_simp
        obtain⟨u3,H⟩:∃w0,u2.alloc (.cells #[.int .i64 0,.slice none 0 0,.int .i64 0,.slice none 0 0,.int .i64 0,.slice none 0 0] 44)=w0:=⟨_,rfl⟩
        have k:=balZ H
        obtain⟨r,A⟩:∃q,u2.heap.size=q:=⟨_,rfl⟩
        have m:=nal2Z H A
        have aP:=altZ H
        have bl:u2.heap.size<=r/\r<u3.heap.size:=by omega
        first | rw [H] | skip
        first | rw [A] | skip
        have y:=Zb R k
        replace n:=(k.block z (by omega)).trans n
        replace c:=c.sm (w':=u3) (by omega) (fun b _ h2=>k.block b (by omega))
        replace a:=a.sm (w':=u3) (fun q e=>k.block q (by have:=j q e;omega))
        refine f.out _ _ y (fun _=>?_)
        clear f K k H A
        refine Zc 5 (by kernel_rfl) rfl (fun K f=>?_)
        go_simp
        refine (aJ.out u3 y).mono ?_
        rintro e u4 ⟨rfl,i⟩
        have aW:=i.size
        have E:=Zb y i
        replace m:=(i.block r (by omega)).trans m
        replace n:=(i.block z (by omega)).trans n
        replace c:=c.sm (w':=u4) (by omega) (fun b _ h2=>i.block b (by omega))
        replace a:=a.sm (w':=u4) (fun q e=>i.block q (by have:=j q e;omega))
        refine f.out _ _ E (fun _=>?_)
        clear f K i 
        refine Zc 8 (by kernel_rfl) rfl (fun K f=>?_)
        obtain⟨r0,r1,r2,r3,r4,r5,l,U⟩:=Zh m
        have J:=l 0
        have P:=l 1
        have O:=l 2
        have M:=l 3
        have N:=l 4
        have T:=l 5
        go_simp
        generalize hu5:World.setCell _ _ _=u5
        obtain⟨m,n,c,a,aX,F⟩:=ZeZ m n c a j (by omega) (by omega) (by omega) (by omega) E hu5
        refine f.out _ _ F (fun _=>?_)
        clear f K hu5 l r0 r1 r2 r3 r4 r5 J P O M N T U
        refine Zc 9 (by kernel_rfl) rfl (fun K f=>?_)
        obtain⟨x0,x1,x2,aa,ab,a8⟩:=ZN n
        go_simp
        generalize hu6:World.setCell _ _ _=u6
        obtain⟨m,n,c,a,aV,C⟩:=Ze0 m n c a j (by omega) (by omega) (by omega) (by omega) F hu6
        refine f.out _ _ C (fun _=>?_)
        clear f K hu6 x0 x1 x2 aa ab a8
        refine wpAnyH_done (by kernel_rfl) ?_ _
        refine NoPanic.normal ?_
        try simp only [Exit.then]
        go_wp2_with fail
        go_meet
        exact⟨r,z,g,ta,tc,Z,sc,lo,hi,n1,rfl,rfl,m,n,c,a,j,⟨by omega,by omega,by omega,by omega,by omega,by omega,by omega,by omega,by omega,by omega,by omega⟩,C⟩
    · go_simp
      obtain⟨u2,a7⟩:∃w0,u1.alloc (.cells #[.int .i64 0,.slice none 0 0,.int .i64 0,.slice none 0 0,.int .i64 0,.slice none 0 0] 44)=w0:=⟨_,rfl⟩
      have Q:=balZ a7
      obtain⟨r,A⟩:∃q,u1.heap.size=q:=⟨_,rfl⟩
      have m:=nal2Z a7 A
      have bx:=altZ a7
      have bl:u1.heap.size<=r/\r<u2.heap.size:=by omega
      first | rw [a7] | skip
      first | rw [A] | skip
      have R:=Zb aC Q
      replace n:=(Q.block z (by omega)).trans n
      refine f.out _ _ R (fun _=>?_)
      clear f K Q a7 A
      refine Zc 1 (by kernel_rfl) rfl (fun K f=>?_)
      go_simp
      refine (bz.out u2 R).mono ?_
      rintro e u3 ⟨g,ta,tc,Z,sc,lo,hi,rfl,cc,c6,b8,c,a,k⟩
      have aP:=k.size
      have j:∀q,Z=some ⟨q,0,none⟩->hi<=q/\q<u3.heap.size:=fun q e=>a.bnd e
      obtain⟨n1,an⟩:∃n1,u3.heap.size=n1:=⟨_,rfl⟩
      have b9:u3.heap.size=n1:=an
      rw [an] at j b8
      have ca:n1<=u3.heap.size/\u2.heap.size<=n1:=by omega
      clear an b9
      have y:=Zb R k
      replace m:=(k.block r (by omega)).trans m
      replace n:=(k.block z (by omega)).trans n
      refine f.out _ _ y (fun _=>?_)
      clear f K k 
      refine Zc 5 (by kernel_rfl) rfl (fun K f=>?_)
      go_simp
      refine (aJ.out u3 y).mono ?_
      rintro e u4 ⟨rfl,i⟩
      have aW:=i.size
      have E:=Zb y i
      replace m:=(i.block r (by omega)).trans m
      replace n:=(i.block z (by omega)).trans n
      replace c:=c.sm (w':=u4) (by omega) (fun b _ h2=>i.block b (by omega))
      replace a:=a.sm (w':=u4) (fun q e=>i.block q (by have:=j q e;omega))
      refine f.out _ _ E (fun _=>?_)
      clear f K i 
      refine Zc 8 (by kernel_rfl) rfl (fun K f=>?_)
      obtain⟨r0,r1,r2,r3,r4,r5,l,U⟩:=Zh m
      have J:=l 0
      have P:=l 1
      have O:=l 2
      have M:=l 3
      have N:=l 4
      have T:=l 5
      go_simp
      generalize hu5:World.setCell _ _ _=u5
      obtain⟨m,n,c,a,aX,F⟩:=ZeZ m n c a j (by omega) (by omega) (by omega) (by omega) E hu5
      refine f.out _ _ F (fun _=>?_)
      clear f K hu5 l r0 r1 r2 r3 r4 r5 J P O M N T U
      refine Zc 9 (by kernel_rfl) rfl (fun K f=>?_)
      obtain⟨x0,x1,x2,aa,ab,a8⟩:=ZN n
      go_simp
      generalize hu6:World.setCell _ _ _=u6
      obtain⟨m,n,c,a,aV,C⟩:=Ze0 m n c a j (by omega) (by omega) (by omega) (by omega) F hu6
      refine f.out _ _ C (fun _=>?_)
      clear f K hu6 x0 x1 x2 aa ab a8
      refine wpAnyH_done (by kernel_rfl) ?_ _
      refine NoPanic.normal ?_
      try simp only [Exit.then]
      go_wp2_with fail
      go_meet
      exact⟨r,z,g,ta,tc,Z,sc,lo,hi,n1,rfl,rfl,m,n,c,a,j,⟨by omega,by omega,by omega,by omega,by omega,by omega,by omega,by omega,by omega,by omega,by omega⟩,C⟩
 case rest=>
  obtain⟨r,z,g,ta,tc,Z,sc,lo,hi,n1,rfl,rfl,m,n,c,a,j,dt,L3⟩:=hcut
  generalize hwc:wc=w1 at *
  clear hwc wc cJ bz aJ
  have HO:=Za m
  have HM:=Za n
  have HK:=Za c
  have c9:=Za a
  have aI:=Za j
  have HN:=Za dt
  have bQ:=Za L3
  have bt:=Za (Zb cC.out L3)
  have cD:=Za (fun (I:World) (L:Below w1.heap.size w1 I)=>ZiY ap cp cl sq kd id p I (bP.out I (Zb bt.out L)).2.2.2 d7.out)
  obtain⟨o,cu⟩:∃o,cmB cl sq kd id p=o:=⟨_,rfl⟩
  rw [cu] at cD
  have bX:=Za cu
  obtain⟨c0,c1,c2,c3,c4,-,-⟩:=Zk (bs.out w1 L3).2.1
  have dV:Hid (0<=lb/\lb<=1000000):=by
   have h:=ZiI (cl:=cl) aY.out.1
   rw [bC.out] at h
   exact h
  clear m n c a j dt L3 cu
  go_wp2_with fail
  refine (cD.out _ (Below.refl _ _)).mono ?_
  rintro e w4 ⟨rfl,L4⟩
  have D:=Za L4
  clear c0 c1 c2 c3 c4 L4 cD
  cases o with
  | false=>
    have hn:=HN.out
    have hl:=D.out.size
    have hz:=br.out
    have b4:=aZ.out.size
    have tO:w4.heap[r]? =some (.cells #[.int .i64 wd,.slice (some ⟨g,0,none⟩) ms.length ms.length,.int .i64 d,.slice ta ts.length tc,.int .i64 nx,.slice Z ss.length sc] 44):=(D.out.block r (by omega)).trans HO.out
    obtain⟨o0,o1,o2,o3,o4,o5,-,-⟩:=Zh tO
    have tr:w4.heap[w.heap.size+1+1]? =some (.cells #[.int .i64 0,.slice none 0 0,.int .i64 0,.slice none 0 0,.int .i64 0,.slice none 0 0] 44):=(bs.out w4 (Zb bQ.out D.out)).2.2
    obtain⟨r0,r1,r2,r3,r4,r5,l,U⟩:=Zh tr
    have J:=l 0
    have P:=l 1
    have O:=l 2
    have M:=l 3
    have N:=l 4
    have T:=l 5
    have en:Hid (apR ⟨wd,ms,d,ts,nx⟩ ss cl sq kd id p= -2/\apS ⟨wd,ms,d,ts,nx⟩ ss cl sq kd id p=⟨wd,ms,d,ts,nx⟩/\ZcF ⟨wd,ms,d,ts,nx⟩ ss cl sq kd id p=ss):=Za (by
     have h:=bX.out
     unfold apR apS ZcF Zff
     rw [h,bC.out]
     simp)
    go_wp2_with fail
    have t6:=Zaf (a':=.int .i64 wd) (b':=.slice (some ⟨g,0,none⟩) ms.length ms.length) (c':=.int .i64 d) (d':=.slice ta ts.length tc) (e':=.int .i64 nx) (f':=.slice Z ss.length sc) tr
    obtain⟨q0,q1,q2,q3,q4,q5,-,-⟩:=Zh t6
    obtain⟨wz,a9⟩:∃wz,(((((w4.setCell ⟨w.heap.size+1+1,0,none⟩ (.int .i64 wd)).setCell ⟨w.heap.size+1+1,1,none⟩ (.slice (some ⟨g,0,none⟩) ms.length ms.length)).setCell ⟨w.heap.size+1+1,2,none⟩ (.int .i64 d)).setCell ⟨w.heap.size+1+1,3,none⟩ (.slice ta ts.length tc)).setCell ⟨w.heap.size+1+1,4,none⟩ (.int .i64 nx)).setCell ⟨w.heap.size+1+1,5,none⟩ (.slice Z ss.length sc)=wz:=⟨_,rfl⟩
    have far:∀b,b≠w.heap.size+1+1->wz.heap[b]? =w4.heap[b]? :=fun b X=>by rw [<-a9];exact Zau X
    have cz:wz.heap.size=w4.heap.size:=by rw [<-a9];simp [World.setCell]
    have ho:w.heap.size<=w.heap.size+1+1:=by omega
    have BZ:Below w.heap.size w wz:=by
     rw [<-a9]
     have X:=Zb bt.out D.out
     exact ((((((X.setCell (p:=⟨w.heap.size+1+1,0,none⟩) ho _).setCell (p:=⟨w.heap.size+1+1,1,none⟩) ho _).setCell (p:=⟨w.heap.size+1+1,2,none⟩) ho _).setCell (p:=⟨w.heap.size+1+1,3,none⟩) ho _).setCell (p:=⟨w.heap.size+1+1,4,none⟩) ho _).setCell (p:=⟨w.heap.size+1+1,5,none⟩) ho _)
    have bh:OwK lo hi wz g (.slice ta ts.length tc) ms ts:=(HK.out.sm D.out.size (fun b h1 h2=>D.out.block b (by omega))).sm (by omega) (fun b h1 h2=>far b (by omega))
    have aT:Zat hi wz Z sc ss:=(c9.out.sm (fun q e=>D.out.block q (by have:=aI.out q e;omega))).sm (fun q e=>far q (by have:=aI.out q e;omega))
    have aQ:DkP (Btw w.heap.size wz.heap.size) wz (.agg #[.int .i64 wd,.slice (some ⟨g,0,none⟩) ms.length ms.length,.int .i64 d,.slice ta ts.length tc,.int .i64 nx,.slice Z ss.length sc]) ⟨wd,ms,d,ts,nx⟩ ss:=
     ZjP (s:=⟨wd,ms,d,ts,nx⟩) bh aT (ZF b6.out.2.2.1) (ZaS b6.out.2.2.1) (by omega) (by omega) (by have:=aY.out.2.1;omega) (by omega) rfl
    have HE:=Za (And.intro aQ BZ)
    have bS:=Za a9
    clear aQ bh aT BZ far a9 t6 tr tO
    refine bodyPost_ret (v:=.tuple #[.agg #[.int .i64 wd,.slice (some ⟨g,0,none⟩) ms.length ms.length,.int .i64 d,.slice ta ts.length tc,.int .i64 nx,.slice Z ss.length sc],.int .i64 (-2)]) (by simp [results,Tryz.results12,go_sem,q0,q1,q2,q3,q4,q5]) rfl ?_
    rw [bS.out]
    obtain⟨y1,y2,y3⟩:=en.out
    rw [y1,y2,y3]
    exact⟨_,rfl,HE.out.1,HE.out.2⟩
  | true=>
    obtain⟨c0,c1,c2,c3,c4,-,-⟩:=Zk (bs.out w4 (Zb bQ.out D.out)).2.1
    have hn:=HN.out
    have bE:=D.out.size
    obtain⟨b0,b1,b2,-,-,-⟩:=ZN ((D.out.block z (by omega)).trans HM.out)
    obtain⟨e1,ei⟩:∃b,(sq ==lb)=b:=⟨_,rfl⟩
    obtain⟨e2,cx⟩:∃b,(sq ==lb+1)=b:=⟨_,rfl⟩
    have ci:=Za ei
    have cS:=Za cx
    have ek:=dV.out
    have cM:wrap64 (lb+1)=lb+1:=IntWalk.wrap64_in _ (by omega)
    have dR:(sq !=lb+1)=!e2:=by rw [<-cx];rfl
    clear hn bE ek
    cases e1 with
    | true=>
      clear cx cS dR cM
      have HX:=Za (And.intro b2 b1)
      have dM:Hid (apR ⟨wd,ms,d,ts,nx⟩ ss cl sq kd id p=lc/\apS ⟨wd,ms,d,ts,nx⟩ ss cl sq kd id p=⟨wd,ms,d,ts,nx⟩/\ZcF ⟨wd,ms,d,ts,nx⟩ ss cl sq kd id p=ss):=Za (by
       have h:=bX.out
       have h0:(sq ==lb)=true:=ci.out
       have h1:sq=lb:=by simpa using h0
       unfold apR apS ZcF Zff
       rw [h,bC.out]
       have h2:(sq ==lb+1)=false:=by simp;omega
       have h3:(sq ==lb)=true:=by simp [h1]
       simp [h2,h3])
      have hn:=HN.out
      have hl:=D.out.size
      have hz:=br.out
      have b4:=aZ.out.size
      have tO:w4.heap[r]? =some (.cells #[.int .i64 wd,.slice (some ⟨g,0,none⟩) ms.length ms.length,.int .i64 d,.slice ta ts.length tc,.int .i64 nx,.slice Z ss.length sc] 44):=(D.out.block r (by omega)).trans HO.out
      have tr:w4.heap[w.heap.size+1+1]? =some (.cells #[.int .i64 0,.slice none 0 0,.int .i64 0,.slice none 0 0,.int .i64 0,.slice none 0 0] 44):=(bs.out w4 (Zb bQ.out D.out)).2.2
      have tM:w4.heap[z]? =some (.cells #[.int .i64 la,.int .i64 lb,.int .i64 lc] 87):=(D.out.block z (by omega)).trans HM.out
      obtain⟨u,hu⟩:∃u,w4.drew=u:=⟨_,rfl⟩
      have Hu:u.os=w4.os/\u.tape=w4.tape/\u.output=w4.output/\u.heap=w4.heap:=by rw [<-hu];exact⟨rfl,rfl,rfl,rfl⟩
      have bK:Hid (Below w1.heap.size w1 u):=⟨Hu.1.trans D.out.os,Hu.2.1.trans D.out.tape,Hu.2.2.1.trans D.out.output,by rw [Hu.2.2.2];exact D.out.size,fun b X=>by rw [Hu.2.2.2];exact D.out.block b X⟩
      have cY:(fun I=>I.heap[r]? =some (.cells #[.int .i64 wd,.slice (some ⟨g,0,none⟩) ms.length ms.length,.int .i64 d,.slice ta ts.length tc,.int .i64 nx,.slice Z ss.length sc] 44)/\I.heap[z]? =some (.cells #[.int .i64 la,.int .i64 lb,.int .i64 lc] 87)) u:=by
       show _/\_
       rw [Hu.2.2.2]
       exact⟨tO,tM⟩
      have dg:u.heap[w.heap.size+1+1]? =some (.cells #[.int .i64 0,.slice none 0 0,.int .i64 0,.slice none 0 0,.int .i64 0,.slice none 0 0] 44):=by rw [Hu.2.2.2];exact tr
      have et:=Za (And.intro dg (And.intro hn (And.intro hl (And.intro hz b4))))
      have di:Hid (w4.drew.heap[r]? =some (.cells #[.int .i64 wd,.slice (some ⟨g,0,none⟩) ms.length ms.length,.int .i64 d,.slice ta ts.length tc,.int .i64 nx,.slice Z ss.length sc] 44)/\w4.drew.heap[z]? =some (.cells #[.int .i64 la,.int .i64 lb,.int .i64 lc] 87)):=Za ⟨tO,tM⟩
      clear Hu hn hl hz b4 tO tr tM dg b0 b2
      go_upto_region 7 with fail
      refine Zl (S:=(fun I=>I.heap[r]? =some (.cells #[.int .i64 wd,.slice (some ⟨g,0,none⟩) ms.length ms.length,.int .i64 d,.slice ta ts.length tc,.int .i64 nx,.slice Z ss.length sc] 44)/\I.heap[z]? =some (.cells #[.int .i64 la,.int .i64 lb,.int .i64 lc] 87))) (fuel:=2) [0,1,2] (by kernel_rfl) (by kernel_rfl) (by kernel_rfl) (by kernel_rfl) di.out (fun _=>?_)
      iterate 3 (refine⟨_,rfl,?_⟩;apply Exists.intro;refine⟨Or.inl ⟨by rfl,fun w' aK=>?_⟩,?_⟩;(focus (obtain⟨h1,h2⟩:=aK;obtain⟨x0,x1,x2,x3,x4,x5,-,-⟩:=Zh h1;obtain⟨y0,y1,y2,-,-,-⟩:=ZN h2;go_simp<;>with_reducible rfl));simp only [Act.put,tkgZ])
      rw [hu]
      clear hu
      obtain⟨tr,hn,hl,hz,b4⟩:=et.out
      obtain⟨r0,r1,r2,r3,r4,r5,l,U⟩:=Zh tr
      have J:=l 0
      have P:=l 1
      have O:=l 2
      have M:=l 3
      have N:=l 4
      have T:=l 5
      refine Zc 3 (by kernel_rfl) rfl (fun K f=>?_)
      go_simp
      have t6:=Zaf (a':=.int .i64 wd) (b':=.slice (some ⟨g,0,none⟩) ms.length ms.length) (c':=.int .i64 d) (d':=.slice ta ts.length tc) (e':=.int .i64 nx) (f':=.slice Z ss.length sc) tr
      obtain⟨wz,a9⟩:∃wz,(((((u.setCell ⟨w.heap.size+1+1,0,none⟩ (.int .i64 wd)).setCell ⟨w.heap.size+1+1,1,none⟩ (.slice (some ⟨g,0,none⟩) ms.length ms.length)).setCell ⟨w.heap.size+1+1,2,none⟩ (.int .i64 d)).setCell ⟨w.heap.size+1+1,3,none⟩ (.slice ta ts.length tc)).setCell ⟨w.heap.size+1+1,4,none⟩ (.int .i64 nx)).setCell ⟨w.heap.size+1+1,5,none⟩ (.slice Z ss.length sc)=wz:=⟨_,rfl⟩
      have far:∀b,b≠w.heap.size+1+1->wz.heap[b]? =u.heap[b]? :=fun b X=>by rw [<-a9];exact Zau X
      have cz:wz.heap.size=u.heap.size:=by rw [<-a9];simp [World.setCell]
      have ho:w.heap.size<=w.heap.size+1+1:=by omega
      have eP:=bK.out.size
      have BZ:Below w.heap.size w wz:=by
       rw [<-a9]
       have X:=Zb bt.out bK.out
       exact ((((((X.setCell (p:=⟨w.heap.size+1+1,0,none⟩) ho _).setCell (p:=⟨w.heap.size+1+1,1,none⟩) ho _).setCell (p:=⟨w.heap.size+1+1,2,none⟩) ho _).setCell (p:=⟨w.heap.size+1+1,3,none⟩) ho _).setCell (p:=⟨w.heap.size+1+1,4,none⟩) ho _).setCell (p:=⟨w.heap.size+1+1,5,none⟩) ho _)
      rw [a9] at t6 ⊢
      obtain⟨q0,q1,q2,q3,q4,q5,-,-⟩:=Zh t6
      have bh:OwK lo hi wz g (.slice ta ts.length tc) ms ts:=(HK.out.sm bK.out.size (fun b h1 h2=>bK.out.block b (by omega))).sm (by omega) (fun b h1 h2=>far b (by omega))
      have aT:Zat hi wz Z sc ss:=(c9.out.sm (fun q e=>bK.out.block q (by have:=aI.out q e;omega))).sm (fun q e=>far q (by have:=aI.out q e;omega))
      have aQ:DkP (Btw w.heap.size wz.heap.size) wz (.agg #[.int .i64 wd,.slice (some ⟨g,0,none⟩) ms.length ms.length,.int .i64 d,.slice ta ts.length tc,.int .i64 nx,.slice Z ss.length sc]) ⟨wd,ms,d,ts,nx⟩ ss:=
       ZjP (s:=⟨wd,ms,d,ts,nx⟩) bh aT (ZF b6.out.2.2.1) (ZaS b6.out.2.2.1) (by omega) (by omega) (by have:=aY.out.2.1;omega) (by omega) rfl
      have HE:=Za (And.intro aQ BZ)
      have dl:(fun I=>I.heap[r]? =some (.cells #[.int .i64 wd,.slice (some ⟨g,0,none⟩) ms.length ms.length,.int .i64 d,.slice ta ts.length tc,.int .i64 nx,.slice Z ss.length sc] 44)/\I.heap[z]? =some (.cells #[.int .i64 la,.int .i64 lb,.int .i64 lc] 87)) wz:=⟨(far r (by omega)).trans cY.1,(far z (by omega)).trans cY.2⟩
      refine f.out _ _ dl (fun _=>?_)
      clear f K aQ bh aT BZ far a9 t6 tr r0 r1 r2 r3 r4 r5 l J P O M N T
      refine ZB [4] (by kernel_rfl) (by kernel_rfl) (by kernel_rfl) (by kernel_rfl) dl ?_
      iterate 1 (refine⟨_,rfl,?_⟩;apply Exists.intro;refine⟨Or.inl ⟨by rfl,fun w' aK=>?_⟩,?_⟩;(focus (go_simp<;>with_reducible rfl));simp only [Act.put,tkgZ])
      refine NoPanic.normal (NoPanic.normal ?_)
      try simp only [Exit.then]
      go_wp2_with fail
      refine bodyPost_ret (v:=.tuple #[.agg #[.int .i64 wd,.slice (some ⟨g,0,none⟩) ms.length ms.length,.int .i64 d,.slice ta ts.length tc,.int .i64 nx,.slice Z ss.length sc],.int .i64 lc]) (by simp [results,Tryz.results12,go_sem,q0,q1,q2,q3,q4,q5]) rfl ?_
      obtain⟨y1,y2,y3⟩:=dM.out
      rw [y1,y2,y3]
      exact⟨_,rfl,HE.out.1,HE.out.2⟩
    | false=>
      cases e2 with
      | false=>
        have hn:=HN.out
        have hl:=D.out.size
        have hz:=br.out
        have b4:=aZ.out.size
        have tO:w4.heap[r]? =some (.cells #[.int .i64 wd,.slice (some ⟨g,0,none⟩) ms.length ms.length,.int .i64 d,.slice ta ts.length tc,.int .i64 nx,.slice Z ss.length sc] 44):=(D.out.block r (by omega)).trans HO.out
        obtain⟨o0,o1,o2,o3,o4,o5,-,-⟩:=Zh tO
        have tr:w4.heap[w.heap.size+1+1]? =some (.cells #[.int .i64 0,.slice none 0 0,.int .i64 0,.slice none 0 0,.int .i64 0,.slice none 0 0] 44):=(bs.out w4 (Zb bQ.out D.out)).2.2
        obtain⟨r0,r1,r2,r3,r4,r5,l,U⟩:=Zh tr
        have J:=l 0
        have P:=l 1
        have O:=l 2
        have M:=l 3
        have N:=l 4
        have T:=l 5
        have er:Hid (apR ⟨wd,ms,d,ts,nx⟩ ss cl sq kd id p= -2/\apS ⟨wd,ms,d,ts,nx⟩ ss cl sq kd id p=⟨wd,ms,d,ts,nx⟩/\ZcF ⟨wd,ms,d,ts,nx⟩ ss cl sq kd id p=ss):=Za (by
         have h:=bX.out
         have h2:(sq ==lb+1)=false:=cS.out
         have h3:(sq ==lb)=false:=ci.out
         unfold apR apS ZcF Zff
         rw [h,bC.out]
         simp [h2,h3])
        go_wp2_with fail
        have t6:=Zaf (a':=.int .i64 wd) (b':=.slice (some ⟨g,0,none⟩) ms.length ms.length) (c':=.int .i64 d) (d':=.slice ta ts.length tc) (e':=.int .i64 nx) (f':=.slice Z ss.length sc) tr
        obtain⟨q0,q1,q2,q3,q4,q5,-,-⟩:=Zh t6
        obtain⟨wz,a9⟩:∃wz,(((((w4.setCell ⟨w.heap.size+1+1,0,none⟩ (.int .i64 wd)).setCell ⟨w.heap.size+1+1,1,none⟩ (.slice (some ⟨g,0,none⟩) ms.length ms.length)).setCell ⟨w.heap.size+1+1,2,none⟩ (.int .i64 d)).setCell ⟨w.heap.size+1+1,3,none⟩ (.slice ta ts.length tc)).setCell ⟨w.heap.size+1+1,4,none⟩ (.int .i64 nx)).setCell ⟨w.heap.size+1+1,5,none⟩ (.slice Z ss.length sc)=wz:=⟨_,rfl⟩
        have far:∀b,b≠w.heap.size+1+1->wz.heap[b]? =w4.heap[b]? :=fun b X=>by rw [<-a9];exact Zau X
        have cz:wz.heap.size=w4.heap.size:=by rw [<-a9];simp [World.setCell]
        have ho:w.heap.size<=w.heap.size+1+1:=by omega
        have BZ:Below w.heap.size w wz:=by
         rw [<-a9]
         have X:=Zb bt.out D.out
         exact ((((((X.setCell (p:=⟨w.heap.size+1+1,0,none⟩) ho _).setCell (p:=⟨w.heap.size+1+1,1,none⟩) ho _).setCell (p:=⟨w.heap.size+1+1,2,none⟩) ho _).setCell (p:=⟨w.heap.size+1+1,3,none⟩) ho _).setCell (p:=⟨w.heap.size+1+1,4,none⟩) ho _).setCell (p:=⟨w.heap.size+1+1,5,none⟩) ho _)
        have bh:OwK lo hi wz g (.slice ta ts.length tc) ms ts:=(HK.out.sm D.out.size (fun b h1 h2=>D.out.block b (by omega))).sm (by omega) (fun b h1 h2=>far b (by omega))
        have aT:Zat hi wz Z sc ss:=(c9.out.sm (fun q e=>D.out.block q (by have:=aI.out q e;omega))).sm (fun q e=>far q (by have:=aI.out q e;omega))
        have aQ:DkP (Btw w.heap.size wz.heap.size) wz (.agg #[.int .i64 wd,.slice (some ⟨g,0,none⟩) ms.length ms.length,.int .i64 d,.slice ta ts.length tc,.int .i64 nx,.slice Z ss.length sc]) ⟨wd,ms,d,ts,nx⟩ ss:=
         ZjP (s:=⟨wd,ms,d,ts,nx⟩) bh aT (ZF b6.out.2.2.1) (ZaS b6.out.2.2.1) (by omega) (by omega) (by have:=aY.out.2.1;omega) (by omega) rfl
        have HE:=Za (And.intro aQ BZ)
        have bS:=Za a9
        clear aQ bh aT BZ far a9 t6 tr tO
        refine bodyPost_ret (v:=.tuple #[.agg #[.int .i64 wd,.slice (some ⟨g,0,none⟩) ms.length ms.length,.int .i64 d,.slice ta ts.length tc,.int .i64 nx,.slice Z ss.length sc],.int .i64 (-2)]) (by simp [results,Tryz.results12,go_sem,q0,q1,q2,q3,q4,q5]) rfl ?_
        rw [bS.out]
        obtain⟨y1,y2,y3⟩:=er.out
        rw [y1,y2,y3]
        exact⟨_,rfl,HE.out.1,HE.out.2⟩
      | true=>
        have hn:=HN.out
        have bE:=D.out.size
        have hz:=br.out
        have b4:=aZ.out.size
        obtain⟨sv,cL⟩:∃sv,shV ap cp kd id p=sv:=⟨_,rfl⟩
        obtain⟨t,cv⟩:∃t,ZeG ⟨wd,ms,d,ts,nx⟩ kd id p=t:=⟨_,rfl⟩
        obtain⟨rr,cy⟩:∃rr,ZdT ⟨wd,ms,d,ts,nx⟩ kd id p=rr:=⟨_,rfl⟩
        have cE:=Za (And.intro cv cy)
        have ct:Hid (∀I,Below w4.heap.size w4 I->Calls Tryz.prog 51 #[.agg #[.int .i64 cl,.int .i64 sq,.int .i64 kd,.int .i64 id,.slice ap p.length cp]] I fun e w'=>e=.returned sv/\Below I.heap.size I w'):=fun I L=>by
         rw [<-cL]
         exact ZhD ap cp cl sq kd id p I (bP.out I (Zb bt.out (Zb D.out L))).2.2.2
        have c8:Hid (∀I,Below w4.heap.size w4 I->Calls Tryz.prog 50 #[.agg #[.int .i64 wd,.slice am ms.length cm,.int .i64 d,.slice aw ts.length cw,.int .i64 nx],sv] I fun e w'=>∃x,e=.returned (.tuple #[x,.int .i64 rr])/\t.Out (Btw I.heap.size w'.heap.size) w' x/\Below I.heap.size I w'):=fun I L=>by
         rw [<-cL,<-cv,<-cy]
         obtain⟨x1,x2,-,x4⟩:=bP.out I (Zb bt.out (Zb D.out L))
         exact iDone ⟨wd,ms,d,ts,nx⟩ _ cl sq kd id ap cp p I ⟨am,cm,aw,cw,rfl,x1,x2⟩ b6.out.2.1 b6.out.1 x4 d7.out bX.out
        have dp:Hid (∀I,Below w4.heap.size w4 I->I.heap[w.heap.size]? =some (.cells #[.int .i64 wd,.slice am ms.length cm,.int .i64 d,.slice aw ts.length cw,.int .i64 nx,.slice aq ss.length cs] 44)/\I.heap[w.heap.size+1]? =some (.cells #[.int .i64 cl,.int .i64 sq,.int .i64 kd,.int .i64 id,.slice ap p.length cp] 48)/\I.heap[w.heap.size+1+1]? =some (.cells #[.int .i64 0,.slice none 0 0,.int .i64 0,.slice none 0 0,.int .i64 0,.slice none 0 0] 44)):=fun I L=>bs.out I (Zb bQ.out (Zb D.out L))
        have ck:=Za ((Below.refl w4.heap.size w4).drew)
        have ed:Hid (apR ⟨wd,ms,d,ts,nx⟩ ss cl sq kd id p=rr/\apS ⟨wd,ms,d,ts,nx⟩ ss cl sq kd id p=t/\ZcF ⟨wd,ms,d,ts,nx⟩ ss cl sq kd id p=Za3 (cl,sq,rr) ss):=Za (by
         have h:=bX.out
         have h2:(sq ==lb+1)=true:=cS.out
         have h3:(sq ==lb)=false:=ci.out
         unfold apR apS ZcF Zff
         rw [h,bC.out]
         simp only [h2,h3,Bool.and_self,if_true,Bool.false_eq_true,if_false]
         exact⟨cE.out.2,cE.out.1,by rw [cE.out.2]⟩)
        clear cL cv cy hn bE hz b4
        go_upto_region 10 with fail
        try rw [cM]
        clear b0 b1 b2 c0 c1 c2 c3 c4 cM
        go_cut [8,9] from 42 to 49 (fun v b wx=>Ap10 w4 wx t rr v b)
        case first=>
         refine Zl (S:=fun I=>Below w4.heap.size w4 I) (fuel:=8) [0,1,2] (by kernel_rfl) (by kernel_rfl) (by kernel_rfl) (by kernel_rfl) ck.out (fun _=>?_)
         iterate 3 (refine⟨_,rfl,?_⟩;apply Exists.intro;refine⟨Or.inl ⟨by rfl,fun w' aK=>?_⟩,?_⟩;(focus (obtain⟨hd,hc,-⟩:=dp.out w' aK;obtain⟨e0,e1,e2,e3,e4,e5,-,-⟩:=Zh hd;obtain⟨c0,c1,c2,c3,c4,-,-⟩:=Zk hc;go_simp<;>with_reducible rfl));simp only [Act.put,tkgZ])
         obtain⟨y0,bo⟩:∃w0,w4.drew=w0:=⟨_,rfl⟩
         have c7:Below w4.heap.size w4 y0:=by rw [<-bo];exact ck.out
         have eI:w4.heap.size<=y0.heap.size:=c7.size
         rw [bo]
         clear bo
         refine ZA 3 8 (by kernel_rfl) rfl rfl (fun K f=>?_) (fun K f=>?_)
         · go_simp
           refine (ct.out y0 c7).mono ?_
           rintro e y1 ⟨rfl,bB⟩
           have eu:=bB.size
           have bg:=Zb c7 bB
           refine f.out _ _ bg (fun _=>?_)
           clear f K bB 
           refine ZA 4 8 (by kernel_rfl) rfl rfl (fun K f=>?_) (fun K f=>?_)
           · go_simp
             refine (c8.out y1 bg).mono ?_
             rintro e y2 ⟨x,rfl,hx,aR⟩
             obtain⟨ai,aj,ak,al,rfl,-,-,-⟩:=hx.view
             have da:=aR.size
             obtain⟨m0,bj⟩:∃m0,y1.heap.size=m0:=⟨_,rfl⟩
             obtain⟨m1,bk⟩:∃m1,y2.heap.size=m1:=⟨_,rfl⟩
             have dr:y1.heap.size<=m0/\m0<=y1.heap.size:=by omega
             have cZ:y2.heap.size<=m1/\m1<=y2.heap.size:=by omega
             rw [bj,bk] at hx
             clear bj bk
             have aU:=Zb bg aR
             refine f.out _ _ aU (fun _=>?_)
             clear f K aR 
             refine Zz 3 [5,6,7] (by kernel_rfl) (by kernel_rfl) (by kernel_rfl) aU ?_
             iterate 3 (refine⟨_,rfl,?_⟩;apply Exists.intro;refine⟨Or.inl ⟨by rfl,fun w' aK=>?_⟩,?_⟩;(focus (go_simp<;>with_reducible rfl));simp only [Act.put,tkgZ])
             refine Zc 8 (by kernel_rfl) rfl (fun K f=>?_)
             go_simp
             generalize bO:World.alloc _ _=y3
             have aG:=balZ bO
             obtain⟨Y,aO⟩:∃q,y2.heap.size=q:=⟨_,rfl⟩
             have hA:=nal2Z bO aO
             have dy:=altZ bO
             have dd:y2.heap.size<=Y/\Y<y3.heap.size:=by omega
             first | rw [bO] | skip
             first | rw [aO] | skip
             have b5:=Zb aU aG
             replace hx:=hx.sm (w':=y3) ⟨by omega,fun b X=>aG.block b (by have:=X.2;omega)⟩
             refine f.out _ _ b5 (fun _=>?_)
             clear f K aG bO aO
             obtain⟨r0,r1,r2,r3,r4,l,-⟩:=Zk hA
             have J:=l 0
             have P:=l 1
             have O:=l 2
             have M:=l 3
             have N:=l 4
             have t5:=ZaG (a':=.int .i64 t.wd) (b':=.slice ai t.ms.length aj) (c':=.int .i64 t.d) (d':=.slice ak t.ts.length al) (e':=.int .i64 t.nx) hA
             refine Zc 9 (by kernel_rfl) rfl (fun K f=>?_)
             go_simp
             obtain⟨vz,ar⟩:∃V,((((y3.setCell ⟨Y,0,none⟩ (.int .i64 t.wd)).setCell ⟨Y,1,none⟩ (.slice ai t.ms.length aj)).setCell ⟨Y,2,none⟩ (.int .i64 t.d)).setCell ⟨Y,3,none⟩ (.slice ak t.ts.length al)).setCell ⟨Y,4,none⟩ (.int .i64 t.nx)=V:=⟨_,rfl⟩
             have far:∀b,b≠Y->vz.heap[b]? =y3.heap[b]? :=fun b X=>by rw [<-ar];exact ZaB X
             have zz:y3.heap.size<=vz.heap.size/\vz.heap.size<=y3.heap.size:=by rw [<-ar];simp [World.setCell]
             have ho:w4.heap.size<=Y:=by omega
             have Bz:Below w4.heap.size w4 vz:=by rw [<-ar];exact (((((b5.setCell (p:=⟨Y,0,none⟩) ho _).setCell (p:=⟨Y,1,none⟩) ho _).setCell (p:=⟨Y,2,none⟩) ho _).setCell (p:=⟨Y,3,none⟩) ho _).setCell (p:=⟨Y,4,none⟩) ho _)
             rw [ar] at t5 ⊢
             have bf:=hx.sm (w':=vz) ⟨by omega,fun b X=>far b (by have:=X.1;have:=X.2;omega)⟩
             refine f.out _ _ Bz (fun _=>?_)
             clear f K ar r0 r1 r2 r3 r4 l J P O M N
             refine ZB [10] (by kernel_rfl) (by kernel_rfl) (by kernel_rfl) (by kernel_rfl) Bz ?_
             iterate 1 (refine⟨_,rfl,?_⟩;apply Exists.intro;refine⟨Or.inl ⟨by rfl,fun w' aK=>?_⟩,?_⟩;(focus (go_simp<;>with_reducible rfl));simp only [Act.put,tkgZ])
             refine NoPanic.normal (NoPanic.normal ?_)
             try simp only [Exit.then]
             go_wp2_with fail
             go_meet
             exact⟨Y,ai,aj,ak,al,m0,m1,rfl,rfl,t5,bf,⟨by omega,by omega,by omega,by omega,by omega,by omega⟩,Bz⟩
           · go_simp
             obtain⟨y2,bM⟩:∃w0,y1.alloc (.cells #[.int .i64 0,.slice none 0 0,.int .i64 0,.slice none 0 0,.int .i64 0] 41)=w0:=⟨_,rfl⟩
             have aR:=balZ bM
             obtain⟨Y,aO⟩:∃q,y1.heap.size=q:=⟨_,rfl⟩
             have hA:=nal2Z bM aO
             have da:=altZ bM
             have dd:y1.heap.size<=Y/\Y<y2.heap.size:=by omega
             first | rw [bM] | skip
             first | rw [aO] | skip
             have aU:=Zb bg aR
             refine f.out _ _ aU (fun _=>?_)
             clear f K aR bM aO
             refine Zc 4 (by kernel_rfl) rfl (fun K f=>?_)
             go_simp
             refine (c8.out y2 aU).mono ?_
             rintro e y3 ⟨x,rfl,hx,aG⟩
             obtain⟨ai,aj,ak,al,rfl,-,-,-⟩:=hx.view
             have dy:=aG.size
             obtain⟨m0,bj⟩:∃m0,y2.heap.size=m0:=⟨_,rfl⟩
             obtain⟨m1,bk⟩:∃m1,y3.heap.size=m1:=⟨_,rfl⟩
             have dr:y2.heap.size<=m0/\m0<=y2.heap.size:=by omega
             have cZ:y3.heap.size<=m1/\m1<=y3.heap.size:=by omega
             rw [bj,bk] at hx
             clear bj bk
             have b5:=Zb aU aG
             replace hA:=(aG.block Y (by omega)).trans hA
             refine f.out _ _ b5 (fun _=>?_)
             clear f K aG 
             refine Zz 2 [5,6,7] (by kernel_rfl) (by kernel_rfl) (by kernel_rfl) b5 ?_
             iterate 3 (refine⟨_,rfl,?_⟩;apply Exists.intro;refine⟨Or.inl ⟨by rfl,fun w' aK=>?_⟩,?_⟩;(focus (go_simp<;>with_reducible rfl));simp only [Act.put,tkgZ])
             obtain⟨r0,r1,r2,r3,r4,l,-⟩:=Zk hA
             have J:=l 0
             have P:=l 1
             have O:=l 2
             have M:=l 3
             have N:=l 4
             have t5:=ZaG (a':=.int .i64 t.wd) (b':=.slice ai t.ms.length aj) (c':=.int .i64 t.d) (d':=.slice ak t.ts.length al) (e':=.int .i64 t.nx) hA
             refine Zc 9 (by kernel_rfl) rfl (fun K f=>?_)
             go_simp
             obtain⟨vz,ar⟩:∃V,((((y3.setCell ⟨Y,0,none⟩ (.int .i64 t.wd)).setCell ⟨Y,1,none⟩ (.slice ai t.ms.length aj)).setCell ⟨Y,2,none⟩ (.int .i64 t.d)).setCell ⟨Y,3,none⟩ (.slice ak t.ts.length al)).setCell ⟨Y,4,none⟩ (.int .i64 t.nx)=V:=⟨_,rfl⟩
             have far:∀b,b≠Y->vz.heap[b]? =y3.heap[b]? :=fun b X=>by rw [<-ar];exact ZaB X
             have zz:y3.heap.size<=vz.heap.size/\vz.heap.size<=y3.heap.size:=by rw [<-ar];simp [World.setCell]
             have ho:w4.heap.size<=Y:=by omega
             have Bz:Below w4.heap.size w4 vz:=by rw [<-ar];exact (((((b5.setCell (p:=⟨Y,0,none⟩) ho _).setCell (p:=⟨Y,1,none⟩) ho _).setCell (p:=⟨Y,2,none⟩) ho _).setCell (p:=⟨Y,3,none⟩) ho _).setCell (p:=⟨Y,4,none⟩) ho _)
             rw [ar] at t5 ⊢
             have bf:=hx.sm (w':=vz) ⟨by omega,fun b X=>far b (by have:=X.1;have:=X.2;omega)⟩
             refine f.out _ _ Bz (fun _=>?_)
             clear f K ar r0 r1 r2 r3 r4 l J P O M N
             refine ZB [10] (by kernel_rfl) (by kernel_rfl) (by kernel_rfl) (by kernel_rfl) Bz ?_
             iterate 1 (refine⟨_,rfl,?_⟩;apply Exists.intro;refine⟨Or.inl ⟨by rfl,fun w' aK=>?_⟩,?_⟩;(focus (go_simp<;>with_reducible rfl));simp only [Act.put,tkgZ])
             refine NoPanic.normal (NoPanic.normal ?_)
             try simp only [Exit.then]
             go_wp2_with fail
             go_meet
             exact⟨Y,ai,aj,ak,al,m0,m1,rfl,rfl,t5,bf,⟨by omega,by omega,by omega,by omega,by omega,by omega⟩,Bz⟩
         · go_simp
           obtain⟨y1,bL⟩:∃w0,y0.alloc (.cells #[.int .i64 0,.slice none 0 0,.int .i64 0,.slice none 0 0,.int .i64 0] 41)=w0:=⟨_,rfl⟩
           have bB:=balZ bL
           obtain⟨Y,aO⟩:∃q,y0.heap.size=q:=⟨_,rfl⟩
           have hA:=nal2Z bL aO
           have eu:=altZ bL
           have dd:y0.heap.size<=Y/\Y<y1.heap.size:=by omega
           first | rw [bL] | skip
           first | rw [aO] | skip
           have bg:=Zb c7 bB
           refine f.out _ _ bg (fun _=>?_)
           clear f K bB bL aO
           refine Zc 3 (by kernel_rfl) rfl (fun K f=>?_)
           go_simp
           refine (ct.out y1 bg).mono ?_
           rintro e y2 ⟨rfl,aR⟩
           have da:=aR.size
           have aU:=Zb bg aR
           replace hA:=(aR.block Y (by omega)).trans hA
           refine f.out _ _ aU (fun _=>?_)
           clear f K aR 
           refine Zc 4 (by kernel_rfl) rfl (fun K f=>?_)
           go_simp
           refine (c8.out y2 aU).mono ?_
           rintro e y3 ⟨x,rfl,hx,aG⟩
           obtain⟨ai,aj,ak,al,rfl,-,-,-⟩:=hx.view
           have dy:=aG.size
           obtain⟨m0,bj⟩:∃m0,y2.heap.size=m0:=⟨_,rfl⟩
           obtain⟨m1,bk⟩:∃m1,y3.heap.size=m1:=⟨_,rfl⟩
           have dr:y2.heap.size<=m0/\m0<=y2.heap.size:=by omega
           have cZ:y3.heap.size<=m1/\m1<=y3.heap.size:=by omega
           rw [bj,bk] at hx
           clear bj bk
           have b5:=Zb aU aG
           replace hA:=(aG.block Y (by omega)).trans hA
           refine f.out _ _ b5 (fun _=>?_)
           clear f K aG 
           refine Zz 2 [5,6,7] (by kernel_rfl) (by kernel_rfl) (by kernel_rfl) b5 ?_
           iterate 3 (refine⟨_,rfl,?_⟩;apply Exists.intro;refine⟨Or.inl ⟨by rfl,fun w' aK=>?_⟩,?_⟩;(focus (go_simp<;>with_reducible rfl));simp only [Act.put,tkgZ])
           obtain⟨r0,r1,r2,r3,r4,l,-⟩:=Zk hA
           have J:=l 0
           have P:=l 1
           have O:=l 2
           have M:=l 3
           have N:=l 4
           have t5:=ZaG (a':=.int .i64 t.wd) (b':=.slice ai t.ms.length aj) (c':=.int .i64 t.d) (d':=.slice ak t.ts.length al) (e':=.int .i64 t.nx) hA
           refine Zc 9 (by kernel_rfl) rfl (fun K f=>?_)
           go_simp
           obtain⟨vz,ar⟩:∃V,((((y3.setCell ⟨Y,0,none⟩ (.int .i64 t.wd)).setCell ⟨Y,1,none⟩ (.slice ai t.ms.length aj)).setCell ⟨Y,2,none⟩ (.int .i64 t.d)).setCell ⟨Y,3,none⟩ (.slice ak t.ts.length al)).setCell ⟨Y,4,none⟩ (.int .i64 t.nx)=V:=⟨_,rfl⟩
           have far:∀b,b≠Y->vz.heap[b]? =y3.heap[b]? :=fun b X=>by rw [<-ar];exact ZaB X
           have zz:y3.heap.size<=vz.heap.size/\vz.heap.size<=y3.heap.size:=by rw [<-ar];simp [World.setCell]
           have ho:w4.heap.size<=Y:=by omega
           have Bz:Below w4.heap.size w4 vz:=by rw [<-ar];exact (((((b5.setCell (p:=⟨Y,0,none⟩) ho _).setCell (p:=⟨Y,1,none⟩) ho _).setCell (p:=⟨Y,2,none⟩) ho _).setCell (p:=⟨Y,3,none⟩) ho _).setCell (p:=⟨Y,4,none⟩) ho _)
           rw [ar] at t5 ⊢
           have bf:=hx.sm (w':=vz) ⟨by omega,fun b X=>far b (by have:=X.1;have:=X.2;omega)⟩
           refine f.out _ _ Bz (fun _=>?_)
           clear f K ar r0 r1 r2 r3 r4 l J P O M N
           refine ZB [10] (by kernel_rfl) (by kernel_rfl) (by kernel_rfl) (by kernel_rfl) Bz ?_
           iterate 1 (refine⟨_,rfl,?_⟩;apply Exists.intro;refine⟨Or.inl ⟨by rfl,fun w' aK=>?_⟩,?_⟩;(focus (go_simp<;>with_reducible rfl));simp only [Act.put,tkgZ])
           refine NoPanic.normal (NoPanic.normal ?_)
           try simp only [Exit.then]
           go_wp2_with fail
           go_meet
           exact⟨Y,ai,aj,ak,al,m0,m1,rfl,rfl,t5,bf,⟨by omega,by omega,by omega,by omega,by omega,by omega⟩,Bz⟩
        case rest=>
         obtain⟨Y,ai,aj,ak,al,m0,m1,rfl,rfl,hA,hx,cP,L5⟩:=hcut
         generalize hwc:wc=w5 at *
         clear hwc wc ck ct c8
         have hn:=HN.out
         have bE:=D.out.size
         have hz:=br.out
         have b4:=aZ.out.size
         have db:=L5.size
         have cj:w5.heap[r]? =some (.cells #[.int .i64 wd,.slice (some ⟨g,0,none⟩) ms.length ms.length,.int .i64 d,.slice ta ts.length tc,.int .i64 nx,.slice Z ss.length sc] 44):=(L5.block r (by omega)).trans ((D.out.block r (by omega)).trans HO.out)
         obtain⟨e9,d2,dv⟩:=dp.out w5 L5
         obtain⟨a0,a1,a2,a3,a4,-,-⟩:=Zk hA
         obtain⟨o0,o1,o2,o3,o4,o5,of,-⟩:=Zh cj
         have em:=of 0
         have dP:=of 1
         have dU:=of 2
         have dS:=of 3
         have dL:=of 4
         obtain⟨w6,bD⟩:∃V,((((w5.setCell ⟨r,0,none⟩ (.int .i64 t.wd)).setCell ⟨r,1,none⟩ (.slice ai t.ms.length aj)).setCell ⟨r,2,none⟩ (.int .i64 t.d)).setCell ⟨r,3,none⟩ (.slice ak t.ts.length al)).setCell ⟨r,4,none⟩ (.int .i64 t.nx)=V:=⟨_,rfl⟩
         have bn:∀b,b≠r->w6.heap[b]? =w5.heap[b]? :=fun b X=>by rw [<-bD];exact ZaB X
         have cI:w6.heap.size=w5.heap.size:=by rw [<-bD];simp [World.setCell]
         have d9:w6.heap[r]? =some (.cells #[.int .i64 t.wd,.slice ai t.ms.length aj,.int .i64 t.d,.slice ak t.ts.length al,.int .i64 t.nx,.slice Z ss.length sc] 44):=by rw [<-bD];exact ZhH cj
         have ho:w.heap.size<=r:=by omega
         have B6:Below w.heap.size w w6:=by
          rw [<-bD]
          have X:=Zb bt.out (Zb D.out L5)
          exact (((((X.setCell (p:=⟨r,0,none⟩) ho _).setCell (p:=⟨r,1,none⟩) ho _).setCell (p:=⟨r,2,none⟩) ho _).setCell (p:=⟨r,3,none⟩) ho _).setCell (p:=⟨r,4,none⟩) ho _)
         have bY:Zat hi w6 Z sc ss:=c9.out.sm (fun q e=>by
          have h:=aI.out q e
          exact (bn q (by omega)).trans ((L5.block q (by omega)).trans (D.out.block q (by omega))))
         have dx:=hx.sm (w':=w6) ⟨by omega,fun b X=>bn b (by have:=X.1;have:=X.2;omega)⟩
         have ep:=(bn (w.heap.size+1) (by omega)).trans d2
         have d4:=(bn (w.heap.size+1+1) (by omega)).trans dv
         have dc:=iTell r ai ak Z aj al sc t.wd t.d t.nx t.ms t.ts ss (cl,sq,rr) w6 hi d9 bY (by omega) (fun e=>by have:=aI.out _ e;omega) (by omega) aY.out.2.2 aY.out.2.1
         have dX:=Za dc
         have dO:=Za dx
         have dY:=Za d4
         have bw:=Za B6
         have ey:=Za bY
         have dK:=Za cP
         have ec:=Za cI
         have e8:=Za bD
         have dT:=Za L5
         obtain⟨c0,c1,c2,c3,c4,-,-⟩:=Zk ep
         clear dx d4 B6 bY cP cI hx L5 dc bn cj d9 e9 d2 dv hA of bE hz b4 db bD
         go_upto_region 12 with fail
         rw [e8.out]
         clear a0 a1 a2 a3 a4 o0 o1 o2 o3 o4 o5 em dP dU dS dL
         go_wp2_with fail
         refine dX.out.mono ?_
         rintro e w7 ⟨rfl,sb,sd,cR,bT,du,be⟩
         obtain⟨b7,bu⟩:∃b7,Za3 (cl,sq,rr) ss=b7:=⟨_,rfl⟩
         have e6:b7.length<=9:=by
          have h:=Zgi (cl,sq,rr) ss
          have:=aY.out.2.1
          rw [bu] at h
          omega
         have dk:=Za bu
         rw [bu] at cR bT
         clear bu
         have hz:=br.out
         have b4:=aZ.out.size
         have bE:=D.out.size
         have db:=dT.out.size
         have cI:=ec.out
         have cP:=dK.out
         have dh:=be.2.2.2.1
         have cq:w7.heap[w.heap.size+1+1]? =some (.cells #[.int .i64 0,.slice none 0 0,.int .i64 0,.slice none 0 0,.int .i64 0,.slice none 0 0] 44):=(be.2.2.2.2 _ (by omega) (fun h=>by
          rcases h with h | h
          · omega
          · have:=aI.out _ h;omega)).trans dY.out
         have d3:=dO.out.sm (w':=w7) ⟨dh,fun b X=>be.2.2.2.2 b (by have:=X.2;omega) (fun h=>by
          have h1:=X.1
          have h2:=X.2
          rcases h with h | h
          · omega
          · have:=aI.out _ h;omega)⟩
         have B7:Below w.heap.size w w7:=⟨be.1.trans bw.out.os,be.2.1.trans bw.out.tape,be.2.2.1.trans bw.out.output,Nat.le_trans bw.out.size dh,fun b X=>(be.2.2.2.2 b (by have:=bw.out.size;omega) (fun h=>by
          rcases h with h | h
          · omega
          · have:=aI.out _ h;omega)).trans (bw.out.block b X)⟩
         obtain⟨o0,o1,o2,o3,o4,o5,-,-⟩:=Zh cR
         obtain⟨r0,r1,r2,r3,r4,r5,l,U⟩:=Zh cq
         have J:=l 0
         have P:=l 1
         have O:=l 2
         have M:=l 3
         have N:=l 4
         have T:=l 5
         have eo:=Za d3
         have dm:=Za bT
         have eh:=Za B7
         have ea:=Za cq
         clear cR bT d3 B7 be cq c0 c1 c2 c3 c4
         go_wp2_with fail
         have t6:=Zaf (a':=.int .i64 t.wd) (b':=.slice ai t.ms.length aj) (c':=.int .i64 t.d) (d':=.slice ak t.ts.length al) (e':=.int .i64 t.nx) (f':=.slice sb b7.length sd) ea.out
         obtain⟨wz,a9⟩:∃wz,(((((w7.setCell ⟨w.heap.size+1+1,0,none⟩ (.int .i64 t.wd)).setCell ⟨w.heap.size+1+1,1,none⟩ (.slice ai t.ms.length aj)).setCell ⟨w.heap.size+1+1,2,none⟩ (.int .i64 t.d)).setCell ⟨w.heap.size+1+1,3,none⟩ (.slice ak t.ts.length al)).setCell ⟨w.heap.size+1+1,4,none⟩ (.int .i64 t.nx)).setCell ⟨w.heap.size+1+1,5,none⟩ (.slice sb b7.length sd)=wz:=⟨_,rfl⟩
         have far:∀b,b≠w.heap.size+1+1->wz.heap[b]? =w7.heap[b]? :=fun b X=>by rw [<-a9];exact Zau X
         have cz:wz.heap.size=w7.heap.size:=by rw [<-a9];simp [World.setCell]
         have ho:w.heap.size<=w.heap.size+1+1:=by omega
         have BZ:Below w.heap.size w wz:=by
          rw [<-a9]
          have X:=eh.out
          exact ((((((X.setCell (p:=⟨w.heap.size+1+1,0,none⟩) ho _).setCell (p:=⟨w.heap.size+1+1,1,none⟩) ho _).setCell (p:=⟨w.heap.size+1+1,2,none⟩) ho _).setCell (p:=⟨w.heap.size+1+1,3,none⟩) ho _).setCell (p:=⟨w.heap.size+1+1,4,none⟩) ho _).setCell (p:=⟨w.heap.size+1+1,5,none⟩) ho _)
         obtain⟨q0,q1,q2,q3,q4,q5,-,-⟩:=Zh t6
         have bf:=eo.out.sm (w':=wz) ⟨by omega,fun b X=>far b (by have:=X.1;have:=X.2;omega)⟩
         have aT:Zat hi wz sb sd b7:=dm.out.sm (fun q e=>far q (by have:=(dm.out.bnd e).1;omega))
         have aQ:DkP (Btw w.heap.size wz.heap.size) wz (.agg #[.int .i64 t.wd,.slice ai t.ms.length aj,.int .i64 t.d,.slice ak t.ts.length al,.int .i64 t.nx,.slice sb b7.length sd]) t b7:=
          ZlC bf aT e6 (fun b X=>by have:=X.1;omega) (by omega) (fun b X e=>by
           have h1:=X.1
           have h2:=X.2
           rcases du b e with h | h
           · have:=aI.out b h;omega
           · omega) rfl
         have HE:=Za (And.intro aQ BZ)
         have bS:=Za a9
         clear aQ bf aT BZ far a9 t6
         refine bodyPost_ret (v:=.tuple #[.agg #[.int .i64 t.wd,.slice ai t.ms.length aj,.int .i64 t.d,.slice ak t.ts.length al,.int .i64 t.nx,.slice sb b7.length sd],.int .i64 rr]) (by simp [results,Tryz.results12,go_sem,q0,q1,q2,q3,q4,q5]) rfl ?_
         rw [bS.out]
         obtain⟨y1,y2,y3⟩:=ed.out
         rw [y1,y2,y3,dk.out]
         exact⟨_,rfl,HE.out.1,HE.out.2⟩
def Cp7(base:Nat)(w:World)(gm c:Nat)(ds:List Dm)(va:Option Addr)(ts:List Wb)(lo hi:Nat):Prop:=
 Z2 base w gm c ds/\Zcj lo hi w va ts/\base<=lo/\lo<=hi/\hi<=w.heap.size/\gm<lo/\∀x∈ds,x.2.1<lo
theorem Cp7.stay{base:Nat}{w w':World}{gm c:Nat}{ds:List Dm}{va:Option Addr}{ts:List Wb}{lo hi:Nat}(h:Cp7 base w gm c ds va ts lo hi)(hs:w.heap.size<=w'.heap.size)(e:∀b,base<=b->b<hi->w'.heap[b]? =w.heap[b]?):Cp7 base w' gm c ds va ts lo hi:=by
 obtain⟨f,k,m,l,n,j,g⟩:=h
 refine⟨Zes f (fun b d=>?_),k.step hs (fun b x y=>e b (by omega) y),m,l,by omega,j,g⟩
 have a:=Za6 (ZbO f) b d
 refine e b a.1 ?_
 rcases d with rfl | ⟨i,hi,rfl⟩
 · omega
 · have:=g _ (ZgJ ds i hi)
   omega
theorem ZdR{base base':Nat}{w:World}{g c:Nat}{ds:List Dm}(h:Z2 base w g c ds)(hb:base'<=base):Z2 base' w g c ds:=
 ⟨⟨h.1.1,h.1.2.imp id fun ⟨g,cap,cur,h1,h2,h3⟩=>⟨g,cap,cur,h1,Nat.le_trans hb h2,h3⟩⟩,fun x hx=>⟨ZfG (h.2.1 x hx).1 hb,(h.2.1 x hx).2⟩,h.2.2⟩
theorem ZpI(am aw aq:Option Addr)(cm cw cs:Nat)(wd d nx:Int)(ms:List Mk)(ts:List Wb)(ss:List Zv)(w:World)(hm:Zo w am ms)(hv:Zp true w aw ts)(hs:Zm w aq ss)(hmb:Zt ms=true)(hok:Zap d ts=true)(hlen:ss.length<=60):
 Calls Tryz.prog 43 #[.agg #[.int .i64 wd,.slice am ms.length cm,.int .i64 d,.slice aw ts.length cw,.int .i64 nx,.slice aq ss.length cs]] w fun e w'=>∃gm c ds va vc gs sc n0 lo hi,e=.returned (.agg #[.int .i64 wd,.slice (some ⟨gm,0,none⟩) ms.length c,.int .i64 d,.slice va ts.length vc,.int .i64 nx,.slice (some ⟨gs,0,none⟩) ss.length sc])/\Zs ds=ms/\Cp7 n0 w' gm c ds va ts lo hi/\Zq w.heap.size w' gs sc ss/\¬(n0<=gs/\gs<hi)/\w.heap.size<=n0/\Below w.heap.size w w':=by
 obtain⟨i0,ad,ac,an,af⟩:=info_parts (P:=Tryz.prog) (e:=87) (z:=.agg #[.int .i64 0,.int .i64 0,.int .i64 0]) (size:=3) (bytes:=24) (by kernel_rfl)
 obtain⟨f,R⟩:∃W,w.alloc (.cells #[.int .i64 wd,.slice am ms.length cm,.int .i64 d,.slice aw ts.length cw,.int .i64 nx,.slice aq ss.length cs] 44)=W:=⟨_,rfl⟩
 obtain⟨W,hW⟩:∃W,f.alloc (.cells #[.int .i64 0,.slice none 0 0,.int .i64 0,.slice none 0 0,.int .i64 0,.slice none 0 0] 44)=W:=⟨_,rfl⟩
 have s1:=salZ R
 have s2:W.heap.size=w.heap.size+1+1:=by rw [<-hW];simp [s1]
 have b1:=balZ R
 have b2:=balZ hW
 have hD:=nalZ R
 have M:=nal2Z hW s1
 have HZ:Hid (f.heap.size=w.heap.size+1/\W.heap.size=w.heap.size+1+1):=Za ⟨s1,s2⟩
 have ag:=Za b1
 have aI:=Za M
 have HS:Hid (∀k,Below f.heap.size f k->k.cell? ⟨w.heap.size,0,none⟩=some (.int .i64 wd)/\k.cell? ⟨w.heap.size,1,none⟩=some (.slice am ms.length cm)/\k.cell? ⟨w.heap.size,2,none⟩=some (.int .i64 d)/\k.cell? ⟨w.heap.size,3,none⟩=some (.slice aw ts.length cw)/\k.cell? ⟨w.heap.size,4,none⟩=some (.int .i64 nx)/\k.cell? ⟨w.heap.size,5,none⟩=some (.slice aq ss.length cs)):=fun k L=>by
  obtain⟨k0,k1,k2,k3,k4,k5,-,-⟩:=Zh ((L.block w.heap.size (by omega)).trans hD)
  exact⟨k0,k1,k2,k3,k4,k5⟩
 have aj:=Za (fun (k:World) (L:Below f.heap.size f k)=>Zpi true am aw cm cw wd ms d ts nx k (hm.next (Zb b1 L)) (hv.next (Zb b1 L)) hmb hok)
 have ah:Hid (∀k,Below f.heap.size f k->Zm k aq ss):=fun k L=>hs.next (Zb b1 L)
 have BL:=Za b2.drew
 have BW:=Za ((Below.refl W.heap.size W).drew)
 have ak:Hid _:=aw2Z R hW
 clear hm hv hs s1 s2 b1 b2 hD M hW R hok hmb
 go_enter Tryz.func43,Tryz.ntmps43
 go_upto_region 1 with fail
 rw [ak.out]
 clear ak
 refine Zl (S:=fun k=>Below f.heap.size f k) (fuel:=5) [0,1,4,5] (by kernel_rfl) (by kernel_rfl) (by kernel_rfl) (by kernel_rfl) BL.out (fun _=>?_)
 iterate 4 (refine⟨_,rfl,?_⟩;apply Exists.intro;refine⟨Or.inl ⟨by rfl,fun w' a4=>?_⟩,?_⟩;(focus (obtain⟨e0,e1,e2,e3,e4,e5⟩:=HS.out w' a4;go_simp<;>with_reducible rfl));simp only [Act.put,tkgZ])
 obtain⟨u0,T⟩:∃w0,W.drew=w0:=⟨_,rfl⟩
 have ab:Below f.heap.size f u0:=by rw [<-T];exact BL.out
 have bd:w.heap.size+1<u0.heap.size/\f.heap.size=w.heap.size+1:=by rw [<-T];exact⟨by show _<W.heap.size;have:=HZ.out.2;omega,HZ.out.1⟩
 have M:(u0.heap[w.heap.size+1]? =some (.cells #[.int .i64 0,.slice none 0 0,.int .i64 0,.slice none 0 0,.int .i64 0,.slice none 0 0] 44)):=by rw [<-T];exact aI.out
 have aS:Hid (∀k,Below f.heap.size f k->True):=fun _ _=>trivial
 rw [T]
 clear T aS
 refine ZA 2 3 (by kernel_rfl) rfl rfl (fun K j=>?_) (fun K j=>?_)
 · go_simp
   refine (aj.out u0 ab).mono ?_
   rintro e u1 ⟨gm,c,vt,rfl,⟨ds,a0,B,l,t,aN,aa,aK⟩,m⟩
   obtain⟨va,vc,rfl,ax,-⟩:=t.form
   have aJ:=m.size
   obtain⟨n0,a8⟩:∃n0,u0.heap.size=n0:=⟨_,rfl⟩
   obtain⟨s,a9⟩:∃s,u1.heap.size=s:=⟨_,rfl⟩
   have zn:u0.heap.size<=n0/\n0<=u0.heap.size/\u1.heap.size<=s/\s<=u1.heap.size:=by omega
   have aP:=(Za6 (ZbO l) gm (Or.inl rfl)).2
   have Q:∀x∈ds,x.2.1<u1.heap.size:=fun x X=>((l.2.1 x X).1.lt2).2
   obtain⟨r,aQ⟩:∃r,r<=B/\r<=u1.heap.size/\(r=B\/r=u1.heap.size)/\u0.heap.size<=r:=by
    rcases Nat.le_total B u1.heap.size with h | h
    · exact⟨B,by omega,h,Or.inl rfl,by omega⟩
    · exact⟨u1.heap.size,h,Nat.le_refl _,Or.inr rfl,m.size⟩
   have A:Cp7 n0 u1 gm c ds va ts r s:=⟨ZdR l (by omega),(fun w' Z Y=>by
    obtain⟨a',c',e',-,hv⟩:=(t.stay (w':=w') Z (fun b x y=>Y b (by omega) (by omega))).form
    injection e' with e1 e2 e3
    subst e1
    exact hv),by omega,by omega,by omega,by omega,fun x X=>by have:=aa x X;have:=Q x X;omega⟩
   clear a8 a9 l t Q
   have I:=Zb ab m
   replace M:=(m.block (w.heap.size+1) (by omega)).trans M
   refine j.out _ _ I (fun _=>?_)
   clear j K m
   refine Zc 3 (by kernel_rfl) rfl (fun K j=>?_)
   go_simp
   generalize O:World.alloc _ _=u2
   have g:=balZ O
   obtain⟨ge,E⟩:∃q,u1.heap.size=q:=⟨_,rfl⟩
   have hE:Zq f.heap.size u2 ge 0 []:=by rw [<-O,<-E];exact Zq.start u1 _ (by omega)
   have aY:u1.heap.size<=ge/\ge<=u1.heap.size:=by omega
   first | rw [O] | skip
   first | rw [E] | skip
   have aT:=altZ O
   have u:=Zb I g
   replace M:=(g.block (w.heap.size+1) (by omega)).trans M
   replace A:=A.stay (w':=u2) g.size (fun b Z Y=>g.block b (by omega))
   refine j.out _ _ u (fun _=>?_)
   clear j K g O E
   have al:¬(n0<=ge/\ge<s):=by omega
   refine Zc 6 (by kernel_rfl) rfl (fun K j=>?_)
   refine Zj u2 rfl (.tmp 6) (.tmp 8) 42 rfl f.heap.size 87 i0 _ 3 24 Tryz.underlying42 ad ac an af rfl (by omega) ge 0 0 [] rfl hE aq ss.length cs (Zg ss) rfl (Zm.src (ah.out _ u)) (by unfold maxLen;omega) (by omega) (by omega) u2.heap.size rfl ?_
   intro gs sc u3 o a D aA
   have hrow:Zq f.heap.size u3 gs sc ss:=Zq.of o (by omega) (by simp)
   have z3:=a.size
   have ae:f.heap.size<=ge:=by omega
   have B3:Below f.heap.size f u3:=u.grown a (by omega) (fun q e=>by injection e with e;omega)
   have n:=A.stay (w':=u3) z3 (fun b Z Y=>a.block b (by omega) (fun e=>by injection e with e;omega))
   have a3:¬(n0<=gs/\gs<s):=by
    rcases D with e | e
    · have e':gs=ge:=by first | exact e | exact e.symm | (injection e with e;exact e.symm)
      omega
    · omega
   have a2:gs≠w.heap.size+1:=by
    rcases D with e | e
    · have e':gs=ge:=by first | exact e | exact e.symm | (injection e with e;exact e.symm)
      omega
    · omega
   rw [Nat.zero_add]
   refine j.out _ _ B3 (fun _=>?_)
   clear j K
   have G:=(a.block (w.heap.size+1) (by omega) (fun e=>by injection e with e;omega)).trans M
   clear o a D A
   obtain⟨r0,r1,r2,r3,r4,r5,F,aR⟩:=Zh G
   have f0:=F 0
   have f1:=F 1
   have f2:=F 2
   have f3:=F 3
   have f4:=F 4
   have f5:=F 5
   refine Zz 1 [7] (by kernel_rfl) (by kernel_rfl) (by kernel_rfl) B3 ?_
   iterate 1 (refine⟨_,rfl,?_⟩;apply Exists.intro;refine⟨Or.inl ⟨by rfl,fun w' a4=>?_⟩,?_⟩;(focus (go_simp<;>with_reducible rfl));simp only [Act.put,tkgZ])
   refine Zc 8 (by kernel_rfl) rfl (fun K j=>?_)
   go_simp
   obtain⟨C,i⟩:∃C,(((((u3.setCell ⟨w.heap.size+1,0,none⟩ (.int .i64 wd)).setCell ⟨w.heap.size+1,1,none⟩ (.slice (some ⟨gm,0,none⟩) ms.length c)).setCell ⟨w.heap.size+1,2,none⟩ (.int .i64 d)).setCell ⟨w.heap.size+1,3,none⟩ (.slice va ts.length vc)).setCell ⟨w.heap.size+1,4,none⟩ (.int .i64 nx)).setCell ⟨w.heap.size+1,5,none⟩ (.slice (some ⟨gs,0,none⟩) ss.length sc)=C:=⟨_,rfl⟩
   have H:f.heap.size<=w.heap.size+1:=by omega
   have LZ:Below f.heap.size f C:=by rw [<-i];exact ((((((B3.setCell (p:=⟨w.heap.size+1,0,none⟩) H _).setCell (p:=⟨w.heap.size+1,1,none⟩) H _).setCell (p:=⟨w.heap.size+1,2,none⟩) H _).setCell (p:=⟨w.heap.size+1,3,none⟩) H _).setCell (p:=⟨w.heap.size+1,4,none⟩) H _).setCell (p:=⟨w.heap.size+1,5,none⟩) H _)
   have TZ:=Zaf (a':=.int .i64 wd) (b':=.slice (some ⟨gm,0,none⟩) ms.length c) (c':=.int .i64 d) (d':=.slice va ts.length vc) (e':=.int .i64 nx) (f':=.slice (some ⟨gs,0,none⟩) ss.length sc) G
   have far:∀b,b≠w.heap.size+1->C.heap[b]? =u3.heap[b]? :=fun b hb=>by rw [<-i];exact Zau hb
   have a7:C.heap.size=u3.heap.size:=by rw [<-i];simp
   rw [i] at TZ ⊢
   have N:=n.stay (w':=C) (by omega) (fun b Z Y=>far b (by omega))
   have V:Zq w.heap.size C gs sc ss:=Zq.mono (ZR hrow (far gs a2)) (by omega)
   obtain⟨q0,q1,q2,q3,q4,q5,-,-⟩:=Zh TZ
   have J:=Za (And.intro a0 (And.intro N (And.intro V (And.intro a3 (And.intro (show w.heap.size<=n0 by omega) (Zb ag.out LZ))))))
   refine j.out _ _ LZ (fun _=>?_)
   clear j K i TZ far a7 N V LZ r0 r1 r2 r3 r4 r5 F f0 f1 f2 f3 f4 f5 G n hrow
   refine wpAnyH_done (by kernel_rfl) ?_ _
   refine NoPanic.normal ?_
   try simp only [Exit.then]
   go_wp2_with fail
   refine bodyPost_ret (v:=.agg #[.int .i64 wd,.slice (some ⟨gm,0,none⟩) ms.length c,.int .i64 d,.slice va ts.length vc,.int .i64 nx,.slice (some ⟨gs,0,none⟩) ss.length sc]) (by simp [results,Tryz.results43,go_sem,q0,q1,q2,q3,q4,q5]) rfl ?_
   exact⟨gm,c,ds,va,vc,gs,sc,n0,r,s,rfl,J.out.1,J.out.2.1,J.out.2.2.1,J.out.2.2.2.1,J.out.2.2.2.2.1,J.out.2.2.2.2.2⟩
 · go_simp
   obtain⟨u1,U⟩:∃w0,u0.alloc (.cells #[] 87)=w0:=⟨_,rfl⟩
   have m:=balZ U
   obtain⟨ge,E⟩:∃q,u0.heap.size=q:=⟨_,rfl⟩
   have hE:Zq f.heap.size u1 ge 0 []:=by rw [<-U,<-E];exact Zq.start u0 _ (by omega)
   have aY:u0.heap.size<=ge/\ge<=u0.heap.size:=by omega
   first | rw [U] | skip
   first | rw [E] | skip
   have aJ:=altZ U
   have I:=Zb ab m
   replace M:=(m.block (w.heap.size+1) (by omega)).trans M
   refine j.out _ _ I (fun _=>?_)
   clear j K m U E
   refine Zc 2 (by kernel_rfl) rfl (fun K j=>?_)
   go_simp
   refine (aj.out u1 I).mono ?_
   rintro e u2 ⟨gm,c,vt,rfl,⟨ds,a0,B,l,t,aN,aa,aK⟩,g⟩
   obtain⟨va,vc,rfl,ax,-⟩:=t.form
   have aT:=g.size
   obtain⟨n0,a8⟩:∃n0,u1.heap.size=n0:=⟨_,rfl⟩
   obtain⟨s,a9⟩:∃s,u2.heap.size=s:=⟨_,rfl⟩
   have zn:u1.heap.size<=n0/\n0<=u1.heap.size/\u2.heap.size<=s/\s<=u2.heap.size:=by omega
   have aP:=(Za6 (ZbO l) gm (Or.inl rfl)).2
   have Q:∀x∈ds,x.2.1<u2.heap.size:=fun x X=>((l.2.1 x X).1.lt2).2
   obtain⟨r,aQ⟩:∃r,r<=B/\r<=u2.heap.size/\(r=B\/r=u2.heap.size)/\u1.heap.size<=r:=by
    rcases Nat.le_total B u2.heap.size with h | h
    · exact⟨B,by omega,h,Or.inl rfl,by omega⟩
    · exact⟨u2.heap.size,h,Nat.le_refl _,Or.inr rfl,g.size⟩
   have A:Cp7 n0 u2 gm c ds va ts r s:=⟨ZdR l (by omega),(fun w' Z Y=>by
    obtain⟨a',c',e',-,hv⟩:=(t.stay (w':=w') Z (fun b x y=>Y b (by omega) (by omega))).form
    injection e' with e1 e2 e3
    subst e1
    exact hv),by omega,by omega,by omega,by omega,fun x X=>by have:=aa x X;have:=Q x X;omega⟩
   clear a8 a9 l t Q
   have u:=Zb I g
   replace M:=(g.block (w.heap.size+1) (by omega)).trans M
   replace hE:Zq f.heap.size u2 ge 0 []:=ZR hE (g.block ge (by omega))
   refine j.out _ _ u (fun _=>?_)
   clear j K g
   have al:¬(n0<=ge/\ge<s):=by omega
   refine Zc 6 (by kernel_rfl) rfl (fun K j=>?_)
   refine Zj u2 rfl (.tmp 6) (.tmp 8) 42 rfl f.heap.size 87 i0 _ 3 24 Tryz.underlying42 ad ac an af rfl (by omega) ge 0 0 [] rfl hE aq ss.length cs (Zg ss) rfl (Zm.src (ah.out _ u)) (by unfold maxLen;omega) (by omega) (by omega) u2.heap.size rfl ?_
   intro gs sc u3 o a D aA
   have hrow:Zq f.heap.size u3 gs sc ss:=Zq.of o (by omega) (by simp)
   have z3:=a.size
   have ae:f.heap.size<=ge:=by omega
   have B3:Below f.heap.size f u3:=u.grown a (by omega) (fun q e=>by injection e with e;omega)
   have n:=A.stay (w':=u3) z3 (fun b Z Y=>a.block b (by omega) (fun e=>by injection e with e;omega))
   have a3:¬(n0<=gs/\gs<s):=by
    rcases D with e | e
    · have e':gs=ge:=by first | exact e | exact e.symm | (injection e with e;exact e.symm)
      omega
    · omega
   have a2:gs≠w.heap.size+1:=by
    rcases D with e | e
    · have e':gs=ge:=by first | exact e | exact e.symm | (injection e with e;exact e.symm)
      omega
    · omega
   rw [Nat.zero_add]
   refine j.out _ _ B3 (fun _=>?_)
   clear j K
   have G:=(a.block (w.heap.size+1) (by omega) (fun e=>by injection e with e;omega)).trans M
   clear o a D A
   obtain⟨r0,r1,r2,r3,r4,r5,F,aR⟩:=Zh G
   have f0:=F 0
   have f1:=F 1
   have f2:=F 2
   have f3:=F 3
   have f4:=F 4
   have f5:=F 5
   refine Zz 1 [7] (by kernel_rfl) (by kernel_rfl) (by kernel_rfl) B3 ?_
   iterate 1 (refine⟨_,rfl,?_⟩;apply Exists.intro;refine⟨Or.inl ⟨by rfl,fun w' a4=>?_⟩,?_⟩;(focus (go_simp<;>with_reducible rfl));simp only [Act.put,tkgZ])
   refine Zc 8 (by kernel_rfl) rfl (fun K j=>?_)
   go_simp
   obtain⟨C,i⟩:∃C,(((((u3.setCell ⟨w.heap.size+1,0,none⟩ (.int .i64 wd)).setCell ⟨w.heap.size+1,1,none⟩ (.slice (some ⟨gm,0,none⟩) ms.length c)).setCell ⟨w.heap.size+1,2,none⟩ (.int .i64 d)).setCell ⟨w.heap.size+1,3,none⟩ (.slice va ts.length vc)).setCell ⟨w.heap.size+1,4,none⟩ (.int .i64 nx)).setCell ⟨w.heap.size+1,5,none⟩ (.slice (some ⟨gs,0,none⟩) ss.length sc)=C:=⟨_,rfl⟩
   have H:f.heap.size<=w.heap.size+1:=by omega
   have LZ:Below f.heap.size f C:=by rw [<-i];exact ((((((B3.setCell (p:=⟨w.heap.size+1,0,none⟩) H _).setCell (p:=⟨w.heap.size+1,1,none⟩) H _).setCell (p:=⟨w.heap.size+1,2,none⟩) H _).setCell (p:=⟨w.heap.size+1,3,none⟩) H _).setCell (p:=⟨w.heap.size+1,4,none⟩) H _).setCell (p:=⟨w.heap.size+1,5,none⟩) H _)
   have TZ:=Zaf (a':=.int .i64 wd) (b':=.slice (some ⟨gm,0,none⟩) ms.length c) (c':=.int .i64 d) (d':=.slice va ts.length vc) (e':=.int .i64 nx) (f':=.slice (some ⟨gs,0,none⟩) ss.length sc) G
   have far:∀b,b≠w.heap.size+1->C.heap[b]? =u3.heap[b]? :=fun b hb=>by rw [<-i];exact Zau hb
   have a7:C.heap.size=u3.heap.size:=by rw [<-i];simp
   rw [i] at TZ ⊢
   have N:=n.stay (w':=C) (by omega) (fun b Z Y=>far b (by omega))
   have V:Zq w.heap.size C gs sc ss:=Zq.mono (ZR hrow (far gs a2)) (by omega)
   obtain⟨q0,q1,q2,q3,q4,q5,-,-⟩:=Zh TZ
   have J:=Za (And.intro a0 (And.intro N (And.intro V (And.intro a3 (And.intro (show w.heap.size<=n0 by omega) (Zb ag.out LZ))))))
   refine j.out _ _ LZ (fun _=>?_)
   clear j K i TZ far a7 N V LZ r0 r1 r2 r3 r4 r5 F f0 f1 f2 f3 f4 f5 G n hrow
   refine wpAnyH_done (by kernel_rfl) ?_ _
   refine NoPanic.normal ?_
   try simp only [Exit.then]
   go_wp2_with fail
   refine bodyPost_ret (v:=.agg #[.int .i64 wd,.slice (some ⟨gm,0,none⟩) ms.length c,.int .i64 d,.slice va ts.length vc,.int .i64 nx,.slice (some ⟨gs,0,none⟩) ss.length sc]) (by simp [results,Tryz.results43,go_sem,q0,q1,q2,q3,q4,q5]) rfl ?_
   exact⟨gm,c,ds,va,vc,gs,sc,n0,r,s,rfl,J.out.1,J.out.2.1,J.out.2.2.1,J.out.2.2.2.1,J.out.2.2.2.2.1,J.out.2.2.2.2.2⟩
structure DBx(base D:Nat)(w:World)(s:St5)(ss:List Zv)(ag:Option Addr)(c:Nat)(og:Option Nat)(ds:List Dm)(va:Option Addr)(vc:Nat)(sa:Option Addr)(sc lo hi:Nat):Prop where
 cells:w.heap[D]? =some (.cells #[.int .i64 s.wd,.slice ag ds.length c,.int .i64 s.d,.slice va s.ts.length vc,.int .i64 s.nx,.slice sa ss.length sc] 44)
 marks:Zs ds=s.ms
 row:DRV base w ag c og ds
 offD:∀x∈ds,x.2.1≠D
 tow:Zcj lo hi w va s.ts
 top:hi<=w.heap.size
 ge:base<=lo
 og_out:∀g,og=some g->¬(lo<=g/\g<hi)
 D_out:¬(lo<=D/\D<hi)
 sess:Zat base w sa sc ss
 s_out:∀q,sa=some ⟨q,0,none⟩->¬(lo<=q/\q<hi)
def DBox(base D:Nat)(w:World)(s:St5)(ss:List Zv):Prop:=∃ag c og ds va vc sa sc lo hi,DBx base D w s ss ag c og ds va vc sa sc lo hi
theorem ZgN{base q c:Nat}{w:World}{ss:List Zv}(h:Zq base w q c ss):∃cs,w.heap[q]? =some (.cells cs 87 (0,0)):=by
 obtain⟨S,h,-⟩:=ZcN h
 exact⟨_,h⟩
theorem Znm{base b c:Nat}{w:World}{xs:List Int}(h:Row base w b c xs):∃cs fz,w.heap[b]? =some (.cells cs 2 fz):=by
 obtain⟨-,⟨a,-⟩ | ⟨q,cap,d,a,-,e,-⟩⟩:=h
 · cases a
 · injection a with a
   injection a with a
   injection a with a
   exact⟨d,_,by rw [a];exact e⟩
theorem Znn{base base' b q c c':Nat}{w:World}{xs:List Int}{ss:List Zv}(h:Row base w b c xs)(h':Zq base' w q c' ss):b≠q:=fun e=>by
 obtain⟨cs,fz,h1⟩:=Znm h
 obtain⟨cs',h2⟩:=ZgN h'
 rw [e,h2] at h1
 injection h1 with h1
 injection h1 with _ h1
 exact absurd h1 (by decide)
section
variable {base D:Nat} {w:World} {s:St5} {ss:List Zv} {ag:Option Addr} {c:Nat} {og:Option Nat} {ds:List Dm} {va:Option Addr} {vc:Nat} {sa:Option Addr} {sc lo hi:Nat}
theorem DBx.s_og(h:DBx base D w s ss ag c og ds va vc sa sc lo hi){q:Nat}(e:sa=some ⟨q,0,none⟩):og≠some q/\q≠D/\(∀x∈ds,x.2.1≠q)/\base<=q/\q<w.heap.size:=by
 rcases h.sess with ⟨h1,-⟩ | ⟨g,h1,hr⟩
 · rw [h1] at e;cases e
 · rw [h1] at e
   injection e with e
   injection e with e
   subst e
   obtain⟨d,a⟩:=ZgN hr
   refine⟨h.row.noD a (by decide),fun e=>?_,fun x b=>Znn (h.row.rows x b).1 hr,hr.lt⟩
   rw [e,h.cells] at a
   injection a with a
   injection a with _ a
   exact absurd a (by decide)
theorem DBx.og_D(h:DBx base D w s ss ag c og ds va vc sa sc lo hi):og≠some D:=h.row.noD h.cells (by decide)
theorem DBx.lt(h:DBx base D w s ss ag c og ds va vc sa sc lo hi):D<w.heap.size:=(Zh h.cells).2.2.2.2.2.2.2
theorem DBx.stay(h:DBx base D w s ss ag c og ds va vc sa sc lo hi){w':World}(hs:w.heap.size<=w'.heap.size)(e:∀b,b<w.heap.size->base<=b\/b=D->w'.heap[b]? =w.heap[b]?):DBx base D w' s ss ag c og ds va vc sa sc lo hi:=
 ⟨(e D h.lt (Or.inr rfl)).trans h.cells,h.marks,ZfJ h.row (fun b h1 h2=>e b h2 (Or.inl h1)),h.offD,h.tow.step hs (fun b h1 h2=>e b (by have:=h.top;omega) (Or.inl (by have:=h.ge;omega))),by have:=h.top;omega,h.ge,h.og_out,h.D_out,h.sess.sm (fun q hq=>e q (h.s_og hq).2.2.2.2 (Or.inl (h.s_og hq).2.2.2.1)),h.s_out⟩
theorem DBx.next(h:DBx base D w s ss ag c og ds va vc sa sc lo hi){w':World}(L:Below w.heap.size w w'):DBx base D w' s ss ag c og ds va vc sa sc lo hi:=
 h.stay L.size (fun b hb _=>L.block b hb)
theorem DBx.view(h:DBx base D w s ss ag c og ds va vc sa sc lo hi):Zo w ag s.ms/\Zp true w va s.ts/\Zm w sa ss:=by
 refine⟨?_,h.tow w (Nat.le_refl _) (fun _ _ _=>rfl),h.sess.view (Sta.refl _ _)⟩
 have:=h.row.view
 rw [h.marks] at this
 exact this
theorem DBx.len(h:DBx base D w s ss ag c og ds va vc sa sc lo hi):ds.length=s.ms.length:=by rw [<-h.marks,ZI]
theorem DBx.kept(h:DBx base D w s ss ag c og ds va vc sa sc lo hi){w':World}{m:Mk}{g c2 hj:Nat}{va':Option Addr}{vc':Nat}{d':Int}{ts':List Wb}{es:List Dm}(hes:Zs es=s.ms++[m])(hl:es.length=ds.length+1)
 (hD:w'.heap[D]? =some (.cells #[.int .i64 s.wd,.slice (some ⟨g,0,none⟩) (ds.length+1) c2,.int .i64 d',.slice va' ts'.length vc',.int .i64 (s.nx+1),.slice sa ss.length sc] 44)) (hr:Z2 base w' g c2 es) (ho:∀x∈es,x.2.1≠D)
 (_h1:w.heap.size<=hj) (h2:hj<=w'.heap.size) (hk:Zcj w.heap.size hj w' va' ts') (hg:og=some g\/hj<=g) (hb:base<=w.heap.size) (hc:Cgd (fun b=>b=D\/og=some b) w w'):
 DBx base D w' ⟨s.wd,s.ms++[m],d',ts',s.nx+1⟩ ss (some ⟨g,0,none⟩) c2 (some g) es va' vc' sa sc w.heap.size hj:=
 ⟨by rw [hl];exact hD,hes,hr.drv,ho,hk,h2,hb,fun g' e=>by
  injection e with e
  subst e
  rcases hg with e | e
  · have:=h.row.lt _ e;omega
  · omega,by have:=h.lt;omega,h.sess.sm (fun q e=>hc.2.2.2.2 q (h.s_og e).2.2.2.2 (fun k=>by
    rcases k with k | k
    · exact (h.s_og e).2.1 k
    · exact (h.s_og e).1 k)),fun q e=>by have:=(h.s_og e).2.2.2.2;omega⟩
theorem DBx.gone(h:DBx base D w s ss ag c og ds va vc sa sc lo hi){w':World}{ms':List Mk}{g c2:Nat}{es:List Dm}(hes:Zs es=ms')
 (hD:w'.heap[D]? =some (.cells #[.int .i64 s.wd,.slice (some ⟨g,0,none⟩) es.length c2,.int .i64 s.d,.slice va s.ts.length vc,.int .i64 s.nx,.slice sa ss.length sc] 44)) (hr:Z2 base w' g c2 es) (ho:∀x∈es,x.2.1≠D) (hg:w.heap.size<=g) (hc:Cgd (fun b=>b=D) w w'):
 DBx base D w' ⟨s.wd,ms',s.d,s.ts,s.nx⟩ ss (some ⟨g,0,none⟩) c2 (some g) es va vc sa sc lo hi:=
 ⟨hD,hes,hr.drv,ho,h.tow.step hc.2.2.2.1 (fun b h1 h2=>hc.2.2.2.2 b (by have:=h.top;omega) (fun k=>h.D_out (by rw [k] at h1 h2;exact⟨h1,h2⟩))),by have:=h.top;have:=hc.2.2.2.1;omega,h.ge,fun g' e=>by
  injection e with e
  subst e
  have:=h.top
  omega,h.D_out,h.sess.sm (fun q e=>hc.2.2.2.2 q (h.s_og e).2.2.2.2 (h.s_og e).2.1),h.s_out⟩
theorem DBx.told(h:DBx base D w s ss ag c og ds va vc sa sc lo hi){w':World}{ss':List Zv}{sb:Option Addr}{sd:Nat}
 (hD:w'.heap[D]? =some (.cells #[.int .i64 s.wd,.slice ag ds.length c,.int .i64 s.d,.slice va s.ts.length vc,.int .i64 s.nx,.slice sb ss'.length sd] 44)) (hs:Zat base w' sb sd ss') (hq:∀q,sb=some ⟨q,0,none⟩->sa=some ⟨q,0,none⟩\/w.heap.size<=q) (hc:Cgd (fun b=>b=D\/sa=some ⟨b,0,none⟩) w w'):
 DBx base D w' s ss' ag c og ds va vc sb sd lo hi:=
 ⟨hD,h.marks,ZfI h.row (fun b e=>hc.2.2.2.2 b (h.row.lt b e) (fun k=>by
  rcases k with k | k
  · exact h.og_D (by rw [e,k])
  · exact (h.s_og k).1 e)) (fun x hx=>hc.2.2.2.2 _ ((h.row.rows x hx).1.lt2).2 (fun k=>by
  rcases k with k | k
  · exact h.offD x hx k
  · exact (h.s_og k).2.2.1 x hx rfl)),h.offD,h.tow.step hc.2.2.2.1 (fun b h1 h2=>hc.2.2.2.2 b (by have:=h.top;omega) (fun k=>by
  rcases k with k | k
  · exact h.D_out (by rw [<-k];exact⟨h1,h2⟩)
  · exact h.s_out b k ⟨h1,h2⟩)),by have:=h.top;have:=hc.2.2.2.1;omega,h.ge,h.og_out,h.D_out,hs,fun q e=>by
  rcases hq q e with k | k
  · exact h.s_out q k
  · have:=h.top;omega⟩
end
theorem ZjQ(l:List Zv)(k i:Nat):Zr (l.drop k) i=Zr l (k+i):=by simp [Zr,List.getD]
theorem ZjR(l:List Zv){k i:Nat}(h:i<k):Zr (l.take k) i=Zr l i:=by simp [Zr,List.getD,h]
theorem ZjS{w:World}{g:Nat}{ss:List Zv}(h:Zcb w g 0 ss)(hg:g<w.heap.size)(k:Nat):Zm w (some ⟨g,k*3,none⟩) (ss.drop k):=
 Or.inr ⟨g,k*3,rfl,hg,fun i hi=>by
  have:=h (k+i) (by simp at hi;omega)
  rw [ZjQ]
  rw [Nat.zero_add,Nat.add_mul] at this
  exact this⟩
theorem ZjT{w:World}{g:Nat}{ss:List Zv}(h:Zcb w g 0 ss)(hg:g<w.heap.size)(k:Nat):Zm w (some ⟨g,0,none⟩) (ss.take k):=
 Or.inr ⟨g,0,rfl,hg,fun i hi=>by
  have hik:i<k/\i<ss.length:=by simp at hi;omega
  rw [ZjR ss hik.1]
  exact h i hik.2⟩
theorem ZpJ{base D:Nat}{w:World}{s:St5}{ss:List Zv}{ag:Option Addr}{c:Nat}{og:Option Nat}{ds:List Dm}{va:Option Addr}{vc:Nat}{sa:Option Addr}{sc lo hi:Nat}(h:DBx base D w s ss ag c og ds va vc sa sc lo hi)(ap:Option Addr)(cp:Nat)(p:List Int)(hok:s.ok=true)(hsm:s.Sm)(hb:base<=w.heap.size)(hp:Zy w ap p)(hpl:p.length<=1048576):
 Calls Tryz.prog 79 #[.pointer (some ⟨D,0,none⟩),.slice ap p.length cp] w fun e w'=>e=.returned (.int .i64 (ZeO s p))/\(∃ag' c' og' ds' va' vc' lo' hi',DBx base D w' (ZdV s p) ss ag' c' og' ds' va' vc' sa sc lo' hi')/\Cgd (fun b=>b=D\/og=some b) w w':=by
 obtain⟨a,x,-,-⟩:=ZaY hok
 have A:=h.len
 have y:=ZF a
 refine (Zpl base D c ag og ds (.slice sa ss.length sc) s.wd s.d s.nx va vc s.ts ap cp p w h.cells h.row hb h.view.2.1 hp hpl x hsm.2.1 (by omega) h.offD (Zic hok)).mono ?_
 rintro e w' ⟨k,v⟩
 unfold ZeO ZdV
 rw [hok]
 simp only [if_true]
 rcases hk:kpB s.wd s.nx s.d p s.ts with _ | _
 · obtain⟨rfl,L⟩:=k hk
   refine⟨rfl,⟨ag,c,og,ds,va,vc,lo,hi,?_⟩,Cgd.of L⟩
   have:=h.next L
   exact this
 · obtain⟨rfl,g,c2,va',vc',q,⟨u,t,n,o⟩,⟨l,r,z,f,j⟩,i⟩:=v hk
   refine⟨rfl,⟨some ⟨g,0,none⟩,c2,some g,ds++[(s.nx,u,t,p)],va',vc',w.heap.size,l,?_⟩,i⟩
   exact h.kept (m:=(s.nx,p)) (by rw [<-h.marks];simp [Zs]) (by simp) q n o r z f j hb i
theorem ZpK{base D:Nat}{w:World}{s:St5}{ss:List Zv}{ag:Option Addr}{c:Nat}{og:Option Nat}{ds:List Dm}{va:Option Addr}{vc:Nat}{sa:Option Addr}{sc lo hi:Nat}(h:DBx base D w s ss ag c og ds va vc sa sc lo hi)(id:Int)(hok:s.ok=true):
 Calls Tryz.prog 80 #[.pointer (some ⟨D,0,none⟩),.int .i64 id] w fun e w'=>e=.returned (.bool (Zd5 s id))/\(∃ag' c' og' ds' va' vc' lo' hi',DBx base D w' (ZdU s id) ss ag' c' og' ds' va' vc' sa sc lo' hi')/\Cgd (fun b=>b=D\/og=some b) w w':=by
 obtain⟨a,u,-,-⟩:=ZaY hok
 have t:=h.len
 have q:=ZF a
 refine (Zpm base D c ag og ds (.slice sa ss.length sc) s.wd s.d s.nx id (.slice va s.ts.length vc) w h.cells h.row (by omega) h.offD).mono ?_
 rintro e w' ⟨i,l⟩
 unfold Zd5 ZdU
 rw [hok]
 simp only [if_true,Bool.true_and]
 rw [h.marks] at i l
 rcases Int.lt_or_le (ZC s.ms id) 0 with hz | hz
 · obtain⟨rfl,rfl⟩:=i hz
   have f:Zaa s.ms id=s.ms:=Zj0 hz
   rw [f]
   exact⟨by rw [decide_eq_false (by omega)],⟨ag,c,og,ds,va,vc,lo,hi,h⟩,Cgd.refl _ _⟩
 · obtain⟨rfl,g,c2,n,p,m,o,j⟩:=l hz
   have f:Zs (ds.take (ZD s.ms id)++ds.drop (ZD s.ms id+1))=Zaa s.ms id:=by
    rw [<-ZlM a hz,<-h.marks]
    simp [Zs,List.map_take,List.map_drop]
   exact⟨by rw [decide_eq_true hz],⟨some ⟨g,0,none⟩,c2,some g,_,va,vc,lo,hi,h.gone f n o (fun x r=>h.offD x (by
    rcases List.mem_append.1 r with k | k
    · exact List.mem_of_mem_take k
    · exact List.mem_of_mem_drop k)) m j⟩,j.mono (fun b k=>Or.inl k)⟩
theorem ZpL(base D:Nat)(s:St5)(ss:List Zv)(ap:Option Addr)(cp:Nat)(cl sq kd id:Int)(p:List Int)(w:World)(h:DBox base D w s ss)(hok:s.ok=true)(hss:ssB ss=true)(hsm:s.Sm)(hD:base<=D)(hp:Zy w ap p)(hpl:p.length<=1048576):
 Calls Tryz.prog 44 #[.pointer (some ⟨D,0,none⟩),.agg #[.int .i64 cl,.int .i64 sq,.int .i64 kd,.int .i64 id,.slice ap p.length cp]] w fun e w'=>e=.returned (.int .i64 (apR s ss cl sq kd id p))/\DBox base D w' (apS s ss cl sq kd id p) (ZcF s ss cl sq kd id p)/\Below base w w':=by
 obtain⟨j0,Y,a3,a4,a6⟩:=info_parts (P:=Tryz.prog) (e:=87) (z:=.agg #[.int .i64 0,.int .i64 0,.int .i64 0]) (size:=3) (bytes:=24) (by kernel_rfl)
 obtain⟨ag,c,og,ds,va,vc,sa,sc,lo,hi,hb⟩:=h
 have di:=hb.lt
 have bU:ss.length<=8:=((ZbF ss).1 hss).1
 have cT:=ZhL hss
 obtain⟨W,hW⟩:∃W,w.alloc (.cells #[.int .i64 cl,.int .i64 sq,.int .i64 kd,.int .i64 id,.slice ap p.length cp] 48)=W:=⟨_,rfl⟩
 have bW:=balZ hW
 have sW:=salZ hW
 have hC:=nalZ hW
 have cg:=Za (fun (y:World) (L:Below W.heap.size W y)=>ZiX ap cp cl sq kd id p y (hp.next (Zb bW L)) hpl)
 obtain⟨o,cA⟩:∃o,cmB cl sq kd id p=o:=⟨_,rfl⟩
 rw [cA] at cg
 have bz:=Za cA
 have b2:=Za hb
 have cZ:=Za bW
 have co:=Za sW
 have cR:=Za hC
 have HP:=Za (And.intro hp hpl)
 have bP:=Za (And.intro hok (And.intro hss hsm))
 have A:=Za (And.intro bU cT)
 have bv:=Za (And.intro hD di)
 have HW:=Za hW
 obtain⟨c0,c1,c2,c3,c4,-,-⟩:=Zk hC
 clear hb hp hpl hok hss hsm hD di bU cT hW bW sW hC cA
 go_enter Tryz.func44,Tryz.ntmps44
 go_upto_region 1 with fail
 rw [HW.out]
 clear HW
 go_wp2_with fail
 refine (cg.out _ (Below.refl _ _)).mono ?_
 rintro e B ⟨rfl,L1⟩
 have bi:=Za L1
 have ar:Hid (Below w.heap.size w B):=Zb cZ.out L1
 have aX:Hid (DBx base D B s ss ag c og ds va vc sa sc lo hi):=b2.out.next (Zb cZ.out L1)
 have aI:Hid (base<=w.heap.size):=by
  have h:=bv.out
  show base<=_
  omega
 clear c0 c1 c2 c3 c4 L1 cg
 cases o with
 | false=>
   go_wp2_with fail
   go_ret
   have h:=bz.out
   unfold apR apS ZcF Zff
   rw [h]
   exact⟨by simp,⟨ag,c,og,ds,va,vc,sa,sc,lo,hi,aX.out⟩,ar.out.mono aI.out⟩
 | true=>
   obtain⟨f,hpl⟩:∃f,plS cl ss=f:=⟨_,rfl⟩
   obtain⟨hh,dc⟩:∃hh,Zdt cl ss=hh:=⟨_,rfl⟩
   obtain⟨la,lb,lc,d6⟩:∃la lb lc,ZbW cl ss=(la,lb,lc):=⟨_,_,_,rfl⟩
   have aC:=Za hpl
   have b4:=Za dc
   have aW:=Za d6
   have ey:f<=ss.length:=by rw [<-hpl];exact Zi3 cl ss
   have eI:=A.out.1
   have am:Hid (∀y,Below B.heap.size B y->y.cell? ⟨D,5,none⟩=some (.slice sa ss.length sc)/\y.cell? ⟨w.heap.size,0,none⟩=some (.int .i64 cl)/\y.cell? ⟨w.heap.size,1,none⟩=some (.int .i64 sq)):=fun y L=>by
    obtain⟨-,-,-,-,-,k5,-,-⟩:=Zh (aX.out.next L).cells
    have hz:=co.out
    have dE:=bi.out.size
    obtain⟨c0,c1,-,-,-,-,-⟩:=Zk ((L.block w.heap.size (by omega)).trans ((bi.out.block w.heap.size (by omega)).trans cR.out))
    exact⟨k5,c0,c1⟩
   have bL:Hid (∀j,j<ss.length->∃g,sa=some ⟨g,0,none⟩/\∀y,Below B.heap.size B y->y.cell? ⟨g,j*3,none⟩=some (.int .i64 (Zr ss j).1)/\y.cell? ⟨g,j*3+1,none⟩=some (.int .i64 (Zr ss j).2.1)/\y.cell? ⟨g,j*3+2,none⟩=some (.int .i64 (Zr ss j).2.2)):=fun j hj=>by
    rcases aX.out.sess with ⟨-,-,h⟩ | ⟨g,h1,hr⟩
    · rw [h] at hj;simp at hj
    · refine⟨g,h1,fun y L=>?_⟩
      have:=(ZR hr (L.block g hr.lt.2)).seg j hj
      simpa using this
   have dT:=Za ((Below.refl B.heap.size B))
   clear hpl dc d6
   go_upto_block 0 with fail
   go_cut [5] from 14 to 35 (fun v wx=>v=.int .i64 (f:Nat)/\Below B.heap.size B wx)
   case first=>
    go_wp2_with fail
    go_loopw [5] (fun iv wr=>∃j:Nat,j<=f/\iv=.int .i64 (j:Nat)/\Below B.heap.size B wr) (fun iv _=>f+1-(intOf iv).toNat)
    case atStart=>exact⟨0,Nat.zero_le _,rfl,dT.out⟩
    case round=>
     obtain⟨j,hj,rfl,L⟩:=hrel
     have Q:=Za (show Below B.heap.size B wr.drew from L.drew)
     have Y:=n0Z j
     clear L
     go_upto_region 4 with fail
     go_cut [33] from 14 to 32 (fun v wx=>(v=.bool true/\j<f\/v=.bool false/\j=f)/\Below B.heap.size B wx)
     case first=>
      by_cases Z:j<ss.length
      · have aU:(j:Int)<(ss.length:Int):=by omega
        obtain⟨g,rfl,a0⟩:=bL.out j Z
        obtain⟨x,hx⟩:∃x,(Zr ss j).1=x:=⟨_,rfl⟩
        have HX:=Za hx
        rw [hx] at a0
        have bA:=Za a0
        clear a0 hx
        by_cases M:x<cl
        · have a9:Hid (j<f):=Za (by
           rcases Nat.lt_or_ge j f with h | h
           · exact h
           · have e:plS cl ss=j:=by rw [aC.out];omega
             have h2:=ZlZ cl ss (by omega)
             rw [e] at h2
             have h3:ZaU ss j=x:=HX.out
             omega)
          refine Zl (S:=fun y=>Below B.heap.size B y) (fuel:=0) [0,1,2,3,4,5,6,7,8,9,10,11,12,13,14,15,16,17,18,19] (by kernel_rfl) (by kernel_rfl) (by kernel_rfl) (by kernel_rfl) Q.out (fun _=>?_)
          iterate 20 (refine⟨_,rfl,?_⟩;(first | refine⟨undef,Or.inr ⟨by rfl,rfl⟩,?_⟩ | (apply Exists.intro;refine⟨Or.inl ⟨by rfl,fun w' r=>?_⟩,?_⟩;(focus (obtain⟨k5,c0,c1⟩:=am.out w' r;obtain⟨t0,t1,t2⟩:=bA.out w' r;go_simp<;>with_reducible rfl))));simp only [Act.put,tkgZ])
          refine wpAnyH_done (by kernel_rfl) ?_ _
          refine NoPanic.normal ?_
          try simp only [Exit.then]
          go_wp2_with fail
          go_meet
          exact⟨Or.inl ⟨rfl,a9.out⟩,Q.out⟩
        · have a9:Hid (j=f):=Za (by
           rcases Nat.lt_or_ge j f with h | h
           · have h2:=Zj5 cl ss j (by rw [aC.out];exact h)
             have h3:ZaU ss j=x:=HX.out
             omega
           · omega)
          refine Zl (S:=fun y=>Below B.heap.size B y) (fuel:=0) [0,1,2,3,4,5,6,7,8,9,10,11,12,13,14,15,16,17,18,19] (by kernel_rfl) (by kernel_rfl) (by kernel_rfl) (by kernel_rfl) Q.out (fun _=>?_)
          iterate 20 (refine⟨_,rfl,?_⟩;(first | refine⟨undef,Or.inr ⟨by rfl,rfl⟩,?_⟩ | (apply Exists.intro;refine⟨Or.inl ⟨by rfl,fun w' r=>?_⟩,?_⟩;(focus (obtain⟨k5,c0,c1⟩:=am.out w' r;obtain⟨t0,t1,t2⟩:=bA.out w' r;go_simp<;>with_reducible rfl))));simp only [Act.put,tkgZ])
          refine wpAnyH_done (by kernel_rfl) ?_ _
          refine NoPanic.normal ?_
          try simp only [Exit.then]
          go_wp2_with fail
          go_meet
          exact⟨Or.inr ⟨rfl,a9.out⟩,Q.out⟩
      · have aU:¬(j:Int)<(ss.length:Int):=by omega
        have a9:Hid (j=f):=Za (by omega)
        refine Zl (S:=fun y=>Below B.heap.size B y) (fuel:=0) [0,1,2,3,4,5,6,7,8,9,10,11,12,13,14,15,16,17,18,19] (by kernel_rfl) (by kernel_rfl) (by kernel_rfl) (by kernel_rfl) Q.out (fun _=>?_)
        iterate 20 (refine⟨_,rfl,?_⟩;(first | refine⟨undef,Or.inr ⟨by rfl,rfl⟩,?_⟩ | (apply Exists.intro;refine⟨Or.inl ⟨by rfl,fun w' r=>?_⟩,?_⟩;(focus (obtain⟨k5,c0,c1⟩:=am.out w' r;go_simp<;>with_reducible rfl))));simp only [Act.put,tkgZ])
        refine wpAnyH_done (by kernel_rfl) ?_ _
        refine NoPanic.normal ?_
        try simp only [Exit.then]
        go_wp2_with fail
        go_meet
        exact⟨Or.inr ⟨rfl,a9.out⟩,Q.out⟩
     case rest=>
      obtain⟨hv,L⟩:=hcut
      generalize hwc:wc=w2 at *
      clear hwc wc
      have d8:=Za L
      clear L
      rcases hv with ⟨rfl,M⟩ | ⟨rfl,rfl⟩
      · go_wp2_with fail
        go_roundw
        case rel=>exact⟨j+1,by omega,by go_num,d8.out⟩
        case measure=>simp [intOf];omega
      · go_wp2_with fail
        go_meet
        exact⟨rfl,d8.out⟩
   case rest=>
    obtain⟨rfl,L⟩:=hcut
    generalize hwc:wc=w2 at *
    clear hwc wc
    have Q:=Za (show Below B.heap.size B w2.drew from L.drew)
    have eG:=n0Z f
    clear L
    go_upto_region 6 with fail
    go_cut [6] from 36 to 55 (fun v wx=>v=.bool hh/\Below B.heap.size B wx)
    case first=>
     by_cases Z:f<ss.length
     · have aU:(f:Int)<(ss.length:Int):=by omega
       obtain⟨g,rfl,a0⟩:=bL.out f Z
       obtain⟨x,hx⟩:∃x,(Zr ss f).1=x:=⟨_,rfl⟩
       have bC:Hid (hh=decide (x=cl)):=Za (by
        rw [<-b4.out]
        unfold Zdt
        rw [aC.out,decide_eq_true Z]
        show (true && decide ((Zr ss f).1=cl))=_
        rw [hx]
        rfl)
       rw [hx] at a0
       have bA:=Za a0
       clear a0 hx
       by_cases M:x=cl
       · have a9:Hid (hh=true):=Za (by rw [bC.out];exact decide_eq_true M)
         clear bC
         subst M
         refine Zl (S:=fun y=>Below B.heap.size B y) (fuel:=0) [0,1,2,3,4,5,6,7,8,9,10,11,12,13,14,15,16,17,18,19,20] (by kernel_rfl) (by kernel_rfl) (by kernel_rfl) (by kernel_rfl) Q.out (fun _=>?_)
         iterate 21 (refine⟨_,rfl,?_⟩;(first | refine⟨undef,Or.inr ⟨by rfl,rfl⟩,?_⟩ | (apply Exists.intro;refine⟨Or.inl ⟨by rfl,fun w' r=>?_⟩,?_⟩;(focus (obtain⟨k5,c0,c1⟩:=am.out w' r;obtain⟨t0,t1,t2⟩:=bA.out w' r;go_simp<;>with_reducible rfl))));simp only [Act.put,tkgZ])
         refine wpAnyH_done (by kernel_rfl) ?_ _
         refine NoPanic.normal ?_
         try simp only [Exit.then]
         go_wp2_with fail
         go_meet
         exact⟨by rw [a9.out],Q.out⟩
       · have a9:Hid (hh=false):=Za (by rw [bC.out];exact decide_eq_false M)
         clear bC
         have eC:(x ==cl)=false:=by simpa using M
         refine Zl (S:=fun y=>Below B.heap.size B y) (fuel:=0) [0,1,2,3,4,5,6,7,8,9,10,11,12,13,14,15,16,17,18,19,20] (by kernel_rfl) (by kernel_rfl) (by kernel_rfl) (by kernel_rfl) Q.out (fun _=>?_)
         iterate 21 (refine⟨_,rfl,?_⟩;(first | refine⟨undef,Or.inr ⟨by rfl,rfl⟩,?_⟩ | (apply Exists.intro;refine⟨Or.inl ⟨by rfl,fun w' r=>?_⟩,?_⟩;(focus (obtain⟨k5,c0,c1⟩:=am.out w' r;obtain⟨t0,t1,t2⟩:=bA.out w' r;go_simp<;>with_reducible rfl))));simp only [Act.put,tkgZ])
         refine wpAnyH_done (by kernel_rfl) ?_ _
         refine NoPanic.normal ?_
         try simp only [Exit.then]
         go_wp2_with fail
         go_meet
         exact⟨by rw [a9.out],Q.out⟩
     · have aU:¬(f:Int)<(ss.length:Int):=by omega
       have a9:Hid (hh=false):=Za (by
        rw [<-b4.out]
        unfold Zdt
        rw [aC.out,decide_eq_false Z]
        rfl)
       refine Zl (S:=fun y=>Below B.heap.size B y) (fuel:=0) [0,1,2,3,4,5,6,7,8,9,10,11,12,13,14,15,16,17,18,19,20] (by kernel_rfl) (by kernel_rfl) (by kernel_rfl) (by kernel_rfl) Q.out (fun _=>?_)
       iterate 21 (refine⟨_,rfl,?_⟩;(first | refine⟨undef,Or.inr ⟨by rfl,rfl⟩,?_⟩ | (apply Exists.intro;refine⟨Or.inl ⟨by rfl,fun w' r=>?_⟩,?_⟩;(focus (obtain⟨k5,c0,c1⟩:=am.out w' r;go_simp<;>with_reducible rfl))));simp only [Act.put,tkgZ])
       refine wpAnyH_done (by kernel_rfl) ?_ _
       refine NoPanic.normal ?_
       try simp only [Exit.then]
       go_wp2_with fail
       go_meet
       exact⟨by rw [a9.out],Q.out⟩
    case rest=>
     obtain⟨rfl,L⟩:=hcut
     generalize hwc:wc=w3 at *
     clear hwc wc Q
     have bH:=Za L
     have cv:Hid (hh=true->f<ss.length/\Zr ss f=(la,lb,lc)):=Za (fun e=>by
      have h:=Ze4 (b4.out.trans e)
      rw [aC.out] at h
      have h2:=aW.out
      unfold ZbW at h2
      rw [b4.out,e,aC.out] at h2
      exact⟨h.1,h2⟩)
     have cX:Hid (hh=false->lb=0):=Za (fun e=>by
      have h2:=aW.out
      unfold ZbW at h2
      rw [b4.out,e] at h2
      simp at h2
      exact h2.2.1.symm)
     have dX:Hid (1<=sq):=Za (by
      have h:=bz.out
      unfold cmB inR at h
      simp only [Bool.and_eq_true,decide_eq_true_eq] at h
      exact h.2.1.1)
     clear L
     go_upto_if 56 with fail
     go_cut [7] from 57 to 64 (fun v wx=>v=.int .i64 lb/\Below B.heap.size B wx)
     case first=>
      obtain⟨k5,c0,c1⟩:=am.out w3 bH.out
      cases hh with
      | true=>
        obtain⟨Z,bn⟩:=cv.out rfl
        have aU:(f:Int)<(ss.length:Int):=by omega
        obtain⟨g,rfl,a0⟩:=bL.out f Z
        obtain⟨t0,t1,t2⟩:=a0 w3 bH.out
        rw [bn] at t1
        clear t0 t2 a0 bn
        go_wp2_with fail
        go_meet
        exact⟨rfl,bH.out⟩
      | false=>
        have h0:=cX.out rfl
        go_wp2_with fail
        go_meet
        exact⟨by rw [h0],bH.out⟩
     case rest=>
      obtain⟨rfl,L⟩:=hcut
      generalize hwc:wc=w4 at *
      clear hwc wc
      have ci:=Za L
      obtain⟨e1,cd⟩:∃b,(sq ==lb)=b:=⟨_,rfl⟩
      have cf:=Za cd
      clear L cd
      go_upto_region 10 with fail
      go_cut [65] from 66 to 72 (fun v wx=>v=.bool (hh && e1)/\Below B.heap.size B wx)
      case first=>
       obtain⟨k5,c0,c1⟩:=am.out w4 ci.out
       have cd:(sq ==lb)=e1:=cf.out
       cases hh with
       | true=>
         go_wp2_with fail
         go_meet
         exact⟨by simp,ci.out⟩
       | false=>
         go_wp2_with fail
         go_meet
         exact⟨by simp,ci.out⟩
      case rest=>
       obtain⟨rfl,L⟩:=hcut
       generalize hwc:wc=w5 at *
       clear hwc wc
       have aM:=Za L
       obtain⟨k5,c0,c1⟩:=am.out w5 L
       clear L
       rcases hhe:hh && e1 with _ | _
       · have d9:Hid ((sq ==lb)=false):=Za (by
          rcases hb:hh with _ | _
          · have h1:=cX.out hb
            have h2:=dX.out
            have h3:sq≠lb:=by omega
            simpa using h3
          · rw [hb] at hhe
            rw [cf.out]
            simpa using hhe)
         have dZ:0<=lb/\lb<=1000000:=by
          have h:=ZiI (cl:=cl) bP.out.2.1
          rw [aW.out] at h
          exact h
         obtain⟨e2,bN⟩:∃b,(sq ==lb+1)=b:=⟨_,rfl⟩
         have dg:=Za bN
         have d0:wrap64 (lb+1)=lb+1:=IntWalk.wrap64_in _ (by omega)
         have dl:(sq !=lb+1)=!e2:=by rw [<-bN];rfl
         clear dZ
         cases e2 with
         | false=>
           have cu:=Za (aX.out.next aM.out)
           have br:Hid (Below w.heap.size w w5):=Zb ar.out aM.out
           go_wp2_with fail
           go_ret
           have h:=bz.out
           have h2:(sq ==lb+1)=false:=dg.out
           have h3:(sq ==lb)=false:=d9.out
           unfold apR apS ZcF Zff
           rw [h,aW.out]
           simp only [h2,h3,Bool.and_false,Bool.false_eq_true,if_false,if_true]
           exact⟨rfl,⟨ag,c,og,ds,va,vc,sa,sc,lo,hi,cu.out⟩,br.out.mono aI.out⟩
         | true=>
           obtain⟨b1,dd⟩:∃b,(kd ==1)=b:=⟨_,rfl⟩
           obtain⟨t,de⟩:∃t,ZeG s kd id p=t:=⟨_,rfl⟩
           obtain⟨n,b6⟩:∃n,ZdT s kd id p=n:=⟨_,rfl⟩
           have aF:=Za (And.intro de b6)
           have bT:=Za dd
           have cC:Hid (∀y,Below B.heap.size B y->y.heap[w.heap.size]? =some (.cells #[.int .i64 cl,.int .i64 sq,.int .i64 kd,.int .i64 id,.slice ap p.length cp] 48)):=Za (fun y L=>by
            have hz:=co.out
            have dE:=bi.out.size
            exact (L.block w.heap.size (by omega)).trans ((bi.out.block w.heap.size (by omega)).trans cR.out))
           obtain⟨-,-,d2,d3,d4,-,-⟩:=Zk (cC.out w5 aM.out)
           clear de b6
           go_upto_if 89 with fail
           go_cut [8] from 90 to 101 (fun v wx=>v=.int .i64 n/\(∃H c' aA I G J aE aK,DBx base D wx t ss H c' aA I G J sa sc aE aK)/\Cgd (fun b=>b=D\/og=some b) B wx)
           case first=>
            have BU:=Za (show Below B.heap.size B w5.drew from aM.out.drew)
            have bI:=Za (aX.out.next BU.out)
            have aV:w5.drew.heap[w.heap.size]? =some (.cells #[.int .i64 cl,.int .i64 sq,.int .i64 kd,.int .i64 id,.slice ap p.length cp] 48):=cC.out _ BU.out
            have d5:∀b,b=D\/og=some b->b≠w.heap.size:=fun b k e=>by
             have hl:=b2.out.lt
             rcases k with k | k
             · omega
             · have:=b2.out.row.lt b k;omega
            have df:=Za d5
            clear d5 k5 c0 c1 d0 dl d2 d3 d4 bN hhe
            cases b1 with
            | true=>
              have bx:=Za (ZpJ bI.out ap cp p bP.out.1 bP.out.2.2 (Nat.le_trans aI.out (Nat.le_trans ar.out.size BU.out.size)) (HP.out.1.next (Zb ar.out BU.out)) HP.out.2)
              have e1:ZdV s p=t:=by have h:=aF.out.1;unfold ZeG at h;rw [bT.out] at h;exact h
              have e2:ZeO s p=n:=by have h:=aF.out.2;unfold ZdT at h;rw [bT.out] at h;exact h
              rw [e1,e2] at bx
              clear e1 e2
              go_upto_region 16 with fail
              refine Zl (S:=fun y=>y.heap[w.heap.size]? =some (.cells #[.int .i64 cl,.int .i64 sq,.int .i64 kd,.int .i64 id,.slice ap p.length cp] 48)) (fuel:=2) [0,1,2,3,4] (by kernel_rfl) (by kernel_rfl) (by kernel_rfl) (by kernel_rfl) aV (fun _=>?_)
              iterate 5 (refine⟨_,rfl,?_⟩;(first | refine⟨undef,Or.inr ⟨by rfl,rfl⟩,?_⟩ | (apply Exists.intro;refine⟨Or.inl ⟨by rfl,fun w' r=>?_⟩,?_⟩;(focus (obtain⟨c0,c1,c2,c3,c4,-,-⟩:=Zk r;go_simp<;>with_reducible rfl))));simp only [Act.put,tkgZ])
              refine Zc 5 (by kernel_rfl) rfl (fun K m=>?_)
              go_simp
              refine bx.out.mono ?_
              rintro e w7 ⟨rfl,hx,hc⟩
              have bM:w7.heap[w.heap.size]? =some (.cells #[.int .i64 cl,.int .i64 sq,.int .i64 kd,.int .i64 id,.slice ap p.length cp] 48):=(hc.2.2.2.2 _ (Zcn (Zk aV).1) (fun k=>df.out _ k rfl)).trans aV
              have bK:=Za (And.intro hx ((Cgd.of BU.out).trans hc))
              refine m.out _ _ bM (fun _=>?_)
              clear m K hx hc
              refine ZB [6] (by kernel_rfl) (by kernel_rfl) (by kernel_rfl) (by kernel_rfl) bM ?_
              iterate 1 (refine⟨_,rfl,?_⟩;(first | refine⟨undef,Or.inr ⟨by rfl,rfl⟩,?_⟩ | (apply Exists.intro;refine⟨Or.inl ⟨by rfl,fun w' r=>?_⟩,?_⟩;(focus (go_simp<;>with_reducible rfl))));simp only [Act.put,tkgZ])
              refine NoPanic.normal (NoPanic.normal ?_)
              try simp only [Exit.then]
              go_wp2_with fail
              go_meet
              exact⟨rfl,bK.out⟩
            | false=>
              have bx:=Za (ZpK bI.out id bP.out.1)
              have e1:ZdU s id=t:=by have h:=aF.out.1;unfold ZeG at h;rw [bT.out] at h;exact h
              have e2:(if Zd5 s id=true then 1 else 0)=n:=by have h:=aF.out.2;unfold ZdT at h;rw [bT.out] at h;exact h
              obtain⟨gr,cE⟩:∃gr,Zd5 s id=gr:=⟨_,rfl⟩
              rw [cE] at e2
              rw [e1,cE] at bx
              have HE:=Za e2
              clear e1 e2 cE
              go_upto_region 17 with fail
              refine Zl (S:=fun y=>y.heap[w.heap.size]? =some (.cells #[.int .i64 cl,.int .i64 sq,.int .i64 kd,.int .i64 id,.slice ap p.length cp] 48)) (fuel:=1) [0,1,2,3,4] (by kernel_rfl) (by kernel_rfl) (by kernel_rfl) (by kernel_rfl) aV (fun _=>?_)
              iterate 5 (refine⟨_,rfl,?_⟩;(first | refine⟨undef,Or.inr ⟨by rfl,rfl⟩,?_⟩ | (apply Exists.intro;refine⟨Or.inl ⟨by rfl,fun w' r=>?_⟩,?_⟩;(focus (obtain⟨c0,c1,c2,c3,c4,-,-⟩:=Zk r;go_simp<;>with_reducible rfl))));simp only [Act.put,tkgZ])
              refine Zc 5 (by kernel_rfl) rfl (fun K m=>?_)
              go_simp
              refine bx.out.mono ?_
              rintro e w7 ⟨rfl,hx,hc⟩
              have bM:w7.heap[w.heap.size]? =some (.cells #[.int .i64 cl,.int .i64 sq,.int .i64 kd,.int .i64 id,.slice ap p.length cp] 48):=(hc.2.2.2.2 _ (Zcn (Zk aV).1) (fun k=>df.out _ k rfl)).trans aV
              have bK:=Za (And.intro hx ((Cgd.of BU.out).trans hc))
              refine m.out _ _ bM (fun _=>?_)
              clear m K hx hc
              refine wpAnyH_done (by kernel_rfl) ?_ _
              refine NoPanic.normal ?_
              try simp only [Exit.then]
              cases gr with
              | true=>
                go_wp2_with fail
                go_meet
                exact⟨by rw [<-HE.out];rfl,bK.out⟩
              | false=>
                go_wp2_with fail
                go_meet
                exact⟨by rw [<-HE.out];rfl,bK.out⟩
           case rest=>
            obtain⟨rfl,dF,bD⟩:=hcut
            generalize hwc:wc=w8 at *
            clear hwc wc
            obtain⟨H,c',aA,I,G,J,aE,aK,bJ⟩:=dF
            obtain⟨E,bq⟩:∃E,w8.alloc (.cells #[.int .i64 cl,.int .i64 sq,.int .i64 n] 87)=E:=⟨_,rfl⟩
            have b9:=balZ bq
            have h9:=nalZ bq
            have dj:=bJ.next b9
            have dr:w8.heap[w.heap.size]? =some (.cells #[.int .i64 cl,.int .i64 sq,.int .i64 kd,.int .i64 id,.slice ap p.length cp] 48):=(bD.2.2.2.2 _ (by have:=co.out;have:=bi.out.size;omega) (fun k=>by
             have hl:=b2.out.lt
             rcases k with k | k
             · omega
             · have:=b2.out.row.lt _ k;omega)).trans (cC.out B (Below.refl _ _))
            obtain⟨eg,dS,-,-,-,-,-⟩:=Zk dr
            have c5:=salZ bq
            have bE:Hid (Za3 (cl,sq,n) ss=if hh=true then ss.set f (cl,sq,n) else ss.take f++(cl,sq,n)::ss.drop f):=Za (by
             unfold Za3
             show (if Zdt cl ss=true then ss.set (plS cl ss) (cl,sq,n) else _)=_
             rw [b4.out,aC.out])
            have aO:Hid (apR s ss cl sq kd id p=n/\apS s ss cl sq kd id p=t/\ZcF s ss cl sq kd id p=Za3 (cl,sq,n) ss):=Za (by
             have h:=bz.out
             have h2:(sq ==lb+1)=true:=dg.out
             have h3:(sq ==lb)=false:=d9.out
             unfold apR apS ZcF Zff
             rw [h,aW.out]
             simp only [h2,h3,Bool.and_self,if_true,Bool.false_eq_true,if_false]
             exact⟨aF.out.2,aF.out.1,by rw [aF.out.2]⟩)
            have ac:Hid (Below base w E):=Za (by
             have dp:=bD.2.2.2.1
             have dR:=aI.out
             have hd:=bv.out
             refine Below.trans ((ar.out).mono dR) (Below.trans (Cgd.below bD (by have:=ar.out.size;omega) (fun b k=>?_)) (b9.mono (by have:=ar.out.size;omega)))
             rcases k with k | k
             · omega
             · exact b2.out.row.ge b k)
            have aG:=Za dj
            have e6:=Za bq
            have bO:=Za c5
            have dm:=Za h9
            have eh:D<w8.heap.size:=bJ.lt
            have bd:∀q,sa=some ⟨q,0,none⟩->q<w8.heap.size:=fun q e=>(bJ.s_og e).2.2.2.2
            have d7:=Za bd
            clear bd
            clear bJ dj b9 bq h9 dr c5 k5 c0 c1 d2 d3 d4 dd bN dl d0 hhe bD
            go_upto_if 108 with fail
            rw [e6.out]
            clear eg dS
            cases hh with
            | true=>
              obtain⟨Z,-⟩:=cv.out rfl
              have aU:(f:Int)<(ss.length:Int):=by omega
              obtain⟨g,rfl,O⟩:∃g,sa=some ⟨g,0,none⟩/\Zq base E g sc ss:=by
               rcases aG.out.sess with ⟨-,-,h⟩ | h
               · rw [h] at Z;simp at Z
               · exact h
              obtain⟨u,hu⟩:∃u,E.drew=u:=⟨_,rfl⟩
              have Hu:u.os=E.os/\u.tape=E.tape/\u.output=E.output/\u.heap=E.heap:=by rw [<-hu];exact⟨rfl,rfl,rfl,rfl⟩
              have hq:=aG.out.s_og rfl
              have dI:g≠w8.heap.size:=fun e=>by
               have h:=d7.out g rfl
               omega
              have ck:E.drew.heap[w8.heap.size]? =some (.cells #[.int .i64 cl,.int .i64 sq,.int .i64 n] 87)/\E.drew.heap[D]? =some (.cells #[.int .i64 t.wd,.slice H I.length c',.int .i64 t.d,.slice G t.ts.length J,.int .i64 t.nx,.slice (some ⟨g,0,none⟩) ss.length sc] 44):=⟨dm.out,aG.out.cells⟩
              have cM:u.heap[w8.heap.size]? =some (.cells #[.int .i64 cl,.int .i64 sq,.int .i64 n] 87)/\u.heap[D]? =some (.cells #[.int .i64 t.wd,.slice H I.length c',.int .i64 t.d,.slice G t.ts.length J,.int .i64 t.nx,.slice (some ⟨g,0,none⟩) ss.length sc] 44):=by rw [Hu.2.2.2];exact ck
              have cO:=Za cM
              have HU:=Za Hu
              have b3:Hid (Zq base u g sc ss):=ZR O (by rw [Hu.2.2.2])
              have bI:Hid (DBx base D u t ss H c' aA I G J (some ⟨g,0,none⟩) sc aE aK):=aG.out.stay (by rw [Hu.2.2.2];exact Nat.le_refl _) (fun b _ _=>by rw [Hu.2.2.2])
              have dH:Hid (Below base w u):=⟨Hu.1.trans ac.out.os,Hu.2.1.trans ac.out.tape,Hu.2.2.1.trans ac.out.output,by rw [Hu.2.2.2];exact ac.out.size,fun b hb=>by rw [Hu.2.2.2];exact ac.out.block b hb⟩
              have dY:g≠D:=hq.2.1
              clear Hu hq O cM
              go_upto_region 21 with fail
              refine Zl (S:=fun y=>y.heap[w8.heap.size]? =some (.cells #[.int .i64 cl,.int .i64 sq,.int .i64 n] 87)/\y.heap[D]? =some (.cells #[.int .i64 t.wd,.slice H I.length c',.int .i64 t.d,.slice G t.ts.length J,.int .i64 t.nx,.slice (some ⟨g,0,none⟩) ss.length sc] 44)) (fuel:=1) [0,1,2,3,4,5,6] (by kernel_rfl) (by kernel_rfl) (by kernel_rfl) (by kernel_rfl) ck (fun _=>?_)
              iterate 7 (refine⟨_,rfl,?_⟩;(first | refine⟨undef,Or.inr ⟨by rfl,rfl⟩,?_⟩ | (apply Exists.intro;refine⟨Or.inl ⟨by rfl,fun w' r=>?_⟩,?_⟩;(focus (obtain⟨aZ,aN⟩:=r;obtain⟨x0,V,X,-,-,-⟩:=ZN aZ;obtain⟨y0,y1,y2,y3,y4,y5,-,-⟩:=Zh aN;go_simp<;>with_reducible rfl))));simp only [Act.put,tkgZ])
              rw [hu]
              clear hu ck
              have f0:=World.ownsRow.frozenAt b3.out (f*3)
              have f1:=World.ownsRow.frozenAt b3.out (f*3+1)
              have f2:=World.ownsRow.frozenAt b3.out (f*3+2)
              obtain⟨z0,z1,z2⟩:=b3.out.seg f Z
              rw [Nat.zero_add] at z0 z1 z2
              refine Zc 7 (by kernel_rfl) rfl (fun K m=>?_)
              go_simp
              obtain⟨wz,aT⟩:∃wz,((u.setCell ⟨g,f*3,none⟩ (.int .i64 cl)).setCell ⟨g,f*3+1,none⟩ (.int .i64 sq)).setCell ⟨g,f*3+2,none⟩ (.int .i64 n)=wz:=⟨_,rfl⟩
              have hz:=b3.out.store f (cl,sq,n)
              have far:∀b,b≠g->wz.heap[b]? =u.heap[b]? :=fun b hb=>by
               rw [<-aT,Below.heap_setCell _ ⟨g,f*3+2,none⟩ _ b hb,Below.heap_setCell _ ⟨g,f*3+1,none⟩ _ b hb,Below.heap_setCell _ ⟨g,f*3,none⟩ _ b hb]
              have bQ:wz.heap.size=u.heap.size:=by rw [<-aT,Ze,Ze,Ze]
              have bG:wz.os=u.os/\wz.tape=u.tape/\wz.output=u.output:=by rw [<-aT];exact⟨rfl,rfl,rfl⟩
              rw [aT] at hz ⊢
              have ce:wz.heap[w8.heap.size]? =some (.cells #[.int .i64 cl,.int .i64 sq,.int .i64 n] 87)/\wz.heap[D]? =some (.cells #[.int .i64 t.wd,.slice H I.length c',.int .i64 t.d,.slice G t.ts.length J,.int .i64 t.nx,.slice (some ⟨g,0,none⟩) ss.length sc] 44):=⟨(far _ (fun e=>dI e.symm)).trans cO.out.1,(far _ (fun e=>dY e.symm)).trans cO.out.2⟩
              have dO:(ss.set f (cl,sq,n)).length=ss.length:=by simp
              have cJ:Cgd (fun b=>b=D\/(some (⟨g,0,none⟩:Addr):Option Addr)=some ⟨b,0,none⟩) u wz:=⟨bG.1,bG.2.1,bG.2.2,by omega,fun b _ hn=>far b (fun e=>hn (Or.inr (by rw [e])))⟩
              have cQ:DBx base D wz t (ss.set f (cl,sq,n)) H c' aA I G J (some ⟨g,0,none⟩) sc aE aK:=bI.out.told (by rw [dO];exact ce.2) (Or.inr ⟨g,rfl,hz⟩) (fun q e=>Or.inl e) cJ
              have cW:Below base w wz:=by
               have hg:=b3.out.lt.1
               rw [<-aT]
               exact ((dH.out.setCell (p:=⟨g,f*3,none⟩) hg _).setCell (p:=⟨g,f*3+1,none⟩) hg _).setCell (p:=⟨g,f*3+2,none⟩) hg _
              have HF:=Za (And.intro cQ cW)
              refine m.out _ _ ce (fun _=>?_)
              clear m K hz far bQ bG aT ce f0 f1 f2 z0 z1 z2 cJ cQ cW
              refine wpAnyH_done (by kernel_rfl) ?_ _
              refine NoPanic.normal ?_
              try simp only [Exit.then]
              go_wp2_with fail
              go_ret
              obtain⟨y1,y2,y3⟩:=aO.out
              have y4:Za3 (cl,sq,n) ss=ss.set f (cl,sq,n):=bE.out
              rw [y1,y2,y3,y4]
              exact⟨rfl,⟨_,_,_,_,_,_,_,_,_,_,HF.out.1⟩,HF.out.2⟩
            | false=>
              go_upto_region 23 with fail
              go_cut [5,10] from 117 to 124 (fun a5 v wx=>a5=.int .i64 (f:Nat)/\∃gr cr,v=.slice (some ⟨gr,0,none⟩) (ss.length-f) cr/\Zq E.heap.size wx gr cr (ss.drop f)/\Below E.heap.size E wx)
              case first=>
               obtain⟨-,-,-,-,-,k5,-,-⟩:=Zh aG.out.cells
               have eH:(f:Int)<=(ss.length:Int):=by omega
               have b0:(ss.drop f).length=ss.length-f:=by simp
               have cN:D<E.heap.size:=by have:=bO.out;omega
               have az:Below E.heap.size E (E.alloc (.cells #[] 87)):=(Below.refl _ _).alloc (Nat.le_refl _) _
               have cx:=Za (Zq.start E E.heap.size (Nat.le_refl _))
               have eJ:=(az.cell (p:=⟨D,5,none⟩) cN).trans k5
               have ct:=Za az
               clear k5
               rcases aG.out.sess with ⟨rfl,rfl,h⟩ | ⟨g,rfl,O⟩
               · have ea:ss.length=0:=by rw [h];rfl
                 have dh:f=0:=by omega
                 have bb:ss.drop f=[]:=by rw [h];simp
                 have ah:Hid (ZX (E.alloc (.cells #[] 87)) 3 none (ss.length-f) (Zg (ss.drop f))):=Za (by
                  have:=Zm.src (w:=E.alloc (.cells #[] 87)) (ao:=none) (ts:=ss.drop f) (Or.inl bb)
                  rw [b0] at this
                  exact this)
                 have ed:(ss.length:Int)=0:=by omega
                 clear az
                 clear ea ed bb b0
                 subst dh
                 subst h
                 have ah:Hid (ZX (E.alloc (.cells #[] 87)) 3 none 0 (Zg [])):=Za (Zm.src (w:=E.alloc (.cells #[] 87)) (ao:=none) (ts:=[]) (Or.inl rfl))
                 go_wp2_with (at_builtin;go_loud (refine Zw _ rfl (.tmp 117) (.tmp 123) 42 rfl E.heap.size 87 j0 _ 3 24 Tryz.underlying42 Y a3 a4 a6 rfl (by omega) E.heap.size 0 0 [] rfl cx.out none 0 0 (Zg []) rfl ah.out (by unfold maxLen;omega) (by omega) (by simp) (E.heap.size+1) (by simp) ?_);intro gg cc cS i a F bX)
                 go_meet
                 exact⟨rfl,gg,cc,by simp,Zq.of i (by simp) (by simp),ct.out.grown a (by simp) (by intro k hk;cases hk;omega)⟩
               · have bZ:=O.cap
                 have bc:=(ZR O (az.block g O.lt.2)).seg
                 have cw:=Nat.lt_of_lt_of_le O.lt.2 az.size
                 by_cases hc:sc=f
                 · have dJ:f=ss.length:=by omega
                   subst dJ
                   subst hc
                   have bb:ss.drop ss.length=[]:=List.drop_eq_nil_of_le (Nat.le_refl _)
                   have dK:=Za bb
                   have ah:Hid (ZX (E.alloc (.cells #[] 87)) 3 (some ⟨g,0,none⟩) 0 (Zg [])):=Za (Zm.src (w:=E.alloc (.cells #[] 87)) (ao:=some ⟨g,0,none⟩) (ts:=[]) (Or.inl rfl))
                   clear az bc cw O bb bZ
                   go_wp2_with (at_builtin;refine Zw _ rfl (.tmp 117) (.tmp 123) 42 rfl E.heap.size 87 j0 _ 3 24 Tryz.underlying42 Y a3 a4 a6 rfl (by omega) E.heap.size 0 0 [] rfl cx.out (some ⟨g,0,none⟩) 0 0 (Zg []) rfl ah.out (by unfold maxLen;omega) (by omega) (by simp) (E.heap.size+1) (by simp) ?_;intro gg cc cS i a F bX)
                   go_meet
                   exact⟨rfl,gg,cc,by simp,by rw [dK.out];exact Zq.of i (by simp) (by simp),ct.out.grown a (by simp) (by intro k hk;cases hk;omega)⟩
                 · have ah:Hid (ZX (E.alloc (.cells #[] 87)) 3 (some ⟨g,f*3,none⟩) (ss.length-f) (Zg (ss.drop f))):=Za (by
                    have:=Zm.src (ZjS bc cw f)
                    rw [b0] at this
                    exact this)
                   clear az bc cw O
                   go_wp2_with (at_builtin;refine Zw _ rfl (.tmp 117) (.tmp 123) 42 rfl E.heap.size 87 j0 _ 3 24 Tryz.underlying42 Y a3 a4 a6 rfl (by omega) E.heap.size 0 0 [] rfl cx.out (some ⟨g,f*3,none⟩) (ss.length-f) (sc-f) (Zg (ss.drop f)) rfl ah.out (by unfold maxLen;omega) (by omega) (by simp) (E.heap.size+1) (by simp) ?_;intro gg cc cS i a F bX)
                   go_meet
                   exact⟨rfl,gg,cc,by simp,Zq.of i (by rw [b0];omega) (by simp),ct.out.grown a (by simp) (by intro k hk;cases hk;omega)⟩
              case rest=>
               obtain⟨rfl,gr,cr,rfl,b6,bB⟩:=hcut
               generalize hwc:wc=w10 at *
               clear hwc wc
               have es:=bB.size
               have R:=Za (aG.out.next bB)
               have N:Hid (Below base w w10):=Below.trans ac.out (bB.mono (by have:=ac.out.size;have:=aI.out;omega))
               have cY:Hid (w10.heap[w8.heap.size]? =some (.cells #[.int .i64 cl,.int .i64 sq,.int .i64 n] 87)):=(bB.block _ (by have:=bO.out;omega)).trans dm.out
               have an:D<w10.heap.size:=by have:=bO.out;omega
               have b0:(ss.drop f).length=ss.length-f:=by simp
               have e7:(ss.take f).length=f:=by simp;omega
               have e9:base<=w10.heap.size:=by have:=N.out.size;have:=aI.out;omega
               have cD:Hid (∀y,Below w10.heap.size w10 y->ZX y 3 (some ⟨gr,0,none⟩) (ss.length-f) (Zg (ss.drop f))):=fun y L=>by
                have:=Zm.src (ZR b6 (L.block gr b6.lt.2)).view
                rw [b0] at this
                exact this
               have dp:w8.heap.size<w10.heap.size:=by have:=bO.out;omega
               clear bB b6
               have ah:Hid (∀y,Below w10.heap.size w10 y->ZX y 3 sa f (Zg (ss.take f))):=Za (fun y L=>by
                have h:Zm y sa (ss.take f):=by
                 rcases R.out.sess with ⟨e1,e2,e3⟩ | ⟨g,e1,O⟩
                 · exact Or.inl (by rw [e3];simp)
                 · rw [e1]
                   exact ZjT (ZR O (L.block g O.lt.2)).seg (Nat.lt_of_lt_of_le O.lt.2 L.size) f
                have:=Zm.src h
                rw [e7] at this
                exact this)
               have e4:Hid ((sa=none/\sc=0/\f=0)\/∃g,sa=some ⟨g,0,none⟩/\f<=sc):=Za (by
                rcases R.out.sess with ⟨e1,e2,e3⟩ | ⟨g,e1,O⟩
                · have h0:ss.length=0:=by rw [e3];rfl
                  exact Or.inl ⟨e1,e2,by omega⟩
                · exact Or.inr ⟨g,e1,by have:=O.cap;omega⟩)
               have A:Hid (∀y,Below w10.heap.size w10 y->y.heap[w8.heap.size]? =some (.cells #[.int .i64 cl,.int .i64 sq,.int .i64 n] 87)/\y.heap[D]? =some (.cells #[.int .i64 t.wd,.slice H I.length c',.int .i64 t.d,.slice G t.ts.length J,.int .i64 t.nx,.slice sa ss.length sc] 44)):=fun y L=>⟨(L.block _ dp).trans cY.out,(L.block D an).trans R.out.cells⟩
               have bY:=Za (show Below w10.heap.size w10 w10.drew from (Below.refl w10.heap.size w10).drew)
               go_upto_region 24 with fail
               refine Zay (S:=fun y=>y.heap[w8.heap.size]? =some (.cells #[.int .i64 cl,.int .i64 sq,.int .i64 n] 87)/\y.heap[D]? =some (.cells #[.int .i64 t.wd,.slice H I.length c',.int .i64 t.d,.slice G t.ts.length J,.int .i64 t.nx,.slice sa ss.length sc] 44)) (fuel:=7) [0,2,3,4,5,6,7,9,12] _ rfl (by kernel_rfl) (by kernel_rfl) (by kernel_rfl) (by kernel_rfl) (by kernel_rfl) (by kernel_rfl) (by kernel_rfl) (A.out _ bY.out) (fun _=>?_)
               simp only [List.pop_toArray,List.dropLast]
               iterate 6 (refine⟨_,rfl,?_⟩;(first | refine⟨undef,Or.inr ⟨by rfl,rfl⟩,?_⟩ | (apply Exists.intro;refine⟨Or.inl ⟨by rfl,fun w' r=>?_⟩,?_⟩;(focus (obtain⟨aZ,aN⟩:=r;obtain⟨x0,V,X,-,-,-⟩:=ZN aZ;obtain⟨y0,y1,y2,y3,y4,y5,-,-⟩:=Zh aN;go_simp<;>with_reducible rfl))));simp only [Act.put,tkgZ])
               refine⟨_,rfl,?_⟩
               refine⟨.slice sa f sc,Or.inl ⟨by rfl,fun w' r=>?_⟩,?_⟩
               · obtain⟨aZ,aN⟩:=r
                 obtain⟨y0,y1,y2,y3,y4,y5,-,-⟩:=Zh aN
                 rcases e4.out with ⟨e1,e2,e3⟩ | ⟨g,e1,bZ⟩
                 · subst e1
                   subst e2
                   subst e3
                   first
                   | (go_simp;done)
                   | (go_simp;with_reducible rfl)
                 · subst e1
                   first
                   | (go_simp;done)
                   | (go_simp;with_reducible rfl)
               simp only [Act.put,tkgZ]
               iterate 2 (refine⟨_,rfl,?_⟩;(first | refine⟨undef,Or.inr ⟨by rfl,rfl⟩,?_⟩ | (apply Exists.intro;refine⟨Or.inl ⟨by rfl,fun w' r=>?_⟩,?_⟩;(focus (obtain⟨aZ,aN⟩:=r;obtain⟨x0,V,X,-,-,-⟩:=ZN aZ;obtain⟨y0,y1,y2,y3,y4,y5,-,-⟩:=Zh aN;go_simp<;>with_reducible rfl))));simp only [Act.put,tkgZ])
               obtain⟨x0,c8⟩:∃w0,w10.drew=w0:=⟨_,rfl⟩
               have cq:Below w10.heap.size w10 x0:=by rw [<-c8];exact bY.out
               have eB:w10.heap.size<=x0.heap.size:=cq.size
               rw [c8]
               clear c8
               refine ZA 1 10 (by kernel_rfl) rfl rfl (fun K m=>?_) (fun K m=>?_)
               · go_simp
                 obtain⟨V,ae⟩:∃w0,x0.alloc (.cells #[] 87)=w0:=⟨_,rfl⟩
                 have bw:=balZ ae
                 obtain⟨ge,aH⟩:∃q,x0.heap.size=q:=⟨_,rfl⟩
                 have hE:Zq w10.heap.size V ge 0 []:=by rw [<-ae,<-aH];exact Zq.start x0 _ (by omega)
                 have eb:x0.heap.size<=ge/\ge<=x0.heap.size:=by omega
                 have dW:=altZ ae
                 first | rw [ae] | skip
                 first | rw [aH] | skip
                 have aL:=Zb cq bw
                 refine m.out _ _ (A.out _ aL) (fun _=>?_)
                 clear m K bw ae aH
                 refine ZA 8 10 (by kernel_rfl) rfl rfl (fun K m=>?_) (fun K m=>?_)
                 · refine Zj V rfl (.tmp 126) (.tmp 132) 42 rfl w10.heap.size 87 j0 _ 3 24 Tryz.underlying42 Y a3 a4 a6 rfl (by omega) ge 0 0 [] rfl hE (sa) f (sc) (Zg (ss.take f)) rfl (ah.out _ aL) (by unfold maxLen;omega) (by omega) (by omega) V.heap.size rfl ?_
                   intro gh ch X i a F M
                   rw [Nat.zero_add] at i ⊢
                   have hH:X.ownsRow w10.heap.size 87 3 (.slice (some ⟨gh,0,none⟩) f ch) f (Zg (ss.take f)):=i
                   have db:=a.size
                   have dq:gh=ge\/V.heap.size<=gh:=by
                    rcases F with e | e
                    · exact Or.inl (by first | exact e | exact e.symm | (injection e with e;exact e.symm))
                    · exact Or.inr (by omega)
                   have ak:Below w10.heap.size w10 X:=aL.grown a (by omega) (fun q e=>by injection e with e;omega)
                   refine m.out _ _ (A.out _ ak) (fun _=>?_)
                   clear m K i a F
                   refine Zc 10 (by kernel_rfl) rfl (fun K m=>?_)
                   go_simp
                   generalize bu:World.alloc _ _=x3
                   have cb:=balZ bu
                   obtain⟨gt,aa⟩:∃q,X.heap.size=q:=⟨_,rfl⟩
                   have hT:=nal2Z bu aa
                   have dt:X.heap.size<=gt/\gt<=X.heap.size:=by omega
                   have cV:=altZ bu
                   first | rw [bu] | skip
                   first | rw [aa] | skip
                   have aw:=Zb ak cb
                   replace hH:x3.ownsRow w10.heap.size 87 3 (.slice (some ⟨gh,0,none⟩) f ch) f (Zg (ss.take f)):=Zaz hH (cb.block gh (World.ownsRow.lt hH gh rfl).2)
                   refine m.out _ _ (A.out _ aw) (fun _=>?_)
                   clear m K cb bu aa
                   refine Zc 11 (by kernel_rfl) rfl (fun K m=>?_)
                   refine step_append_lies x3 rfl (.tmp 133) (.tmp 135) 42 rfl w10.heap.size 87 j0 _ 3 24 Tryz.underlying42 Y a3 a4 a6 rfl (by omega) (.slice (some ⟨gh,0,none⟩) f ch) f (Zg (ss.take f)) rfl hH ⟨gt,0,none⟩ 1 1 [.int .i64 cl,.int .i64 sq,.int .i64 n] rfl rfl (World.news_of_block (cs:=#[.int .i64 cl,.int .i64 sq,.int .i64 n]) hT) (by simp [Value.oneCell']) (by omega) (by unfold maxLen;omega) (by omega) (by omega) x3.heap.size rfl ?_
                   intro ga ca T i a F M
                   have hA:T.ownsRow w10.heap.size 87 3 (.slice (some ⟨ga,0,none⟩) (f+1) ca) (f+1) (Zg (ss.take f++[(cl,sq,n)])):=by
                    rw [ZO]
                    exact i
                   have cK:=a.size
                   have U:Below w10.heap.size w10 T:=aw.grown a (by omega) (fun q e=>by
                    have e':gh=q:=by simpa [Value.ownBlock] using e
                    have:=(World.ownsRow.lt hH gh rfl).1
                    omega)
                   refine m.out _ _ (A.out _ U) (fun _=>?_)
                   clear m K i a
                   refine Zc 13 (by kernel_rfl) rfl (fun K m=>?_)
                   refine Zj T rfl (.tmp 136) (.tmp 137) 42 rfl w10.heap.size 87 j0 _ 3 24 Tryz.underlying42 Y a3 a4 a6 rfl (by omega) ga (f+1) ca (Zg (ss.take f++[(cl,sq,n)])) rfl hA (some ⟨gr,0,none⟩) (ss.length-f) cr (Zg (ss.drop f)) rfl (cD.out _ U) (by unfold maxLen;omega) (by omega) (by omega) T.heap.size rfl ?_
                   intro gz cz C i a F M
                   have hZ:Zq w10.heap.size C gz cz (ss.take f++(cl,sq,n)::ss.drop f):=by
                    refine Zq.of i (by simp <;> omega) ?_
                    rw [<-ZO,List.append_assoc]
                    rfl
                   have d1:=a.size
                   have l:Below w10.heap.size w10 C:=U.grown a (by omega) (fun q e=>by
                    injection e with e
                    have:=(World.ownsRow.lt hA ga rfl).1
                    omega)
                   have bh:f+1+(ss.length-f)=ss.length+1:=by omega
                   rw [bh]
                   refine m.out _ _ (A.out _ l) (fun _=>?_)
                   clear m K i a hA
                   refine Zc 14 (by kernel_rfl) rfl (fun K m=>?_)
                   go_simp
                   refine m.out _ _ (A.out _ l) (fun _=>?_)
                   clear m K
                   refine Zc 15 (by kernel_rfl) rfl (fun K m=>?_)
                   go_simp
                   refine m.out _ _ (A.out _ l) (fun _=>?_)
                   clear m K
                   refine wpAnyH_done (by kernel_rfl) ?_ _
                   simp only [Exit.then]
                   have t8:=(l.block D an).trans R.out.cells
                   obtain⟨-,-,-,-,-,u5,uf,-⟩:=Zh t8
                   have dn:=uf 5
                   have be:Hid (∀w':World,w'=C.setCell ⟨D,5,none⟩ (.slice (some ⟨gz,0,none⟩) (ss.length+1) cz)->DBx base D w' t (ss.take f++(cl,sq,n)::ss.drop f) H c' aA I G J (some ⟨gz,0,none⟩) cz aE aK/\Below base w w'):=Za (fun w' e=>by
                    have a2:∀b,b≠D->w'.heap[b]? =C.heap[b]? :=fun b hb=>by rw [e];exact Below.heap_setCell C ⟨D,5,none⟩ _ b (fun e=>hb e)
                    have bQ:w'.heap.size=C.heap.size:=by rw [e,Ze]
                    have hl:(ss.take f++(cl,sq,n)::ss.drop f).length=ss.length+1:=by simp <;> omega
                    have da:=hZ.lt.1
                    have bl:w'.heap[D]? =some (.cells #[.int .i64 t.wd,.slice H I.length c',.int .i64 t.d,.slice G t.ts.length J,.int .i64 t.nx,.slice (some ⟨gz,0,none⟩) (ss.length+1) cz] 44):=by rw [e];exact Zef t8
                    refine⟨R.out.told (by rw [hl];exact bl) (Or.inr ⟨gz,rfl,Zq.mono (ZR hZ (a2 gz (by omega))) (by omega)⟩) (fun q eq=>by
                     injection eq with eq
                     injection eq with eq
                     exact Or.inr (by omega)) ⟨by rw [e];exact l.os,by rw [e];exact l.tape,by rw [e];exact l.output,by have:=l.size;omega,fun b hb hn=>(a2 b (fun k=>hn (Or.inl k))).trans (l.block b hb)⟩,?_⟩
                    rw [e]
                    exact (Below.trans N.out (l.mono (by have:=N.out.size;omega))).setCell (by have:=bv.out;show base<=D;omega) _)
                   clear t8 uf hZ hH hT U l
                   go_wp2_with fail
                   refine NoPanic.normal ?_
                   go_wp2_with fail
                   go_ret
                   obtain⟨y1,y2,y3⟩:=aO.out
                   have y4:Za3 (cl,sq,n) ss=ss.take f++(cl,sq,n)::ss.drop f:=bE.out
                   rw [y1,y2,y3,y4]
                   obtain⟨h1,h2⟩:=be.out _ rfl
                   exact⟨rfl,⟨_,_,_,_,_,_,_,_,_,_,h1⟩,h2⟩
                 · go_simp
                   obtain⟨X,ab⟩:∃w0,V.alloc (.cells #[.int .i64 cl,.int .i64 sq,.int .i64 n] 87)=w0:=⟨_,rfl⟩
                   have aB:=balZ ab
                   obtain⟨gt,aa⟩:∃q,V.heap.size=q:=⟨_,rfl⟩
                   have hT:=nal2Z ab aa
                   have dt:V.heap.size<=gt/\gt<=V.heap.size:=by omega
                   have db:=altZ ab
                   first | rw [ab] | skip
                   first | rw [aa] | skip
                   have ak:=Zb aL aB
                   replace hE:Zq w10.heap.size X ge 0 []:=ZR hE (aB.block ge (by omega))
                   refine m.out _ _ (A.out _ ak) (fun _=>?_)
                   clear m K aB ab aa
                   refine Zc 8 (by kernel_rfl) rfl (fun K m=>?_)
                   refine Zj X rfl (.tmp 126) (.tmp 132) 42 rfl w10.heap.size 87 j0 _ 3 24 Tryz.underlying42 Y a3 a4 a6 rfl (by omega) ge 0 0 [] rfl hE (sa) f (sc) (Zg (ss.take f)) rfl (ah.out _ ak) (by unfold maxLen;omega) (by omega) (by omega) X.heap.size rfl ?_
                   intro gh ch x3 i a F M
                   rw [Nat.zero_add] at i ⊢
                   have hH:x3.ownsRow w10.heap.size 87 3 (.slice (some ⟨gh,0,none⟩) f ch) f (Zg (ss.take f)):=i
                   have cV:=a.size
                   have dq:gh=ge\/X.heap.size<=gh:=by
                    rcases F with e | e
                    · exact Or.inl (by first | exact e | exact e.symm | (injection e with e;exact e.symm))
                    · exact Or.inr (by omega)
                   have aw:Below w10.heap.size w10 x3:=ak.grown a (by omega) (fun q e=>by injection e with e;omega)
                   replace hT:=(a.block gt (by omega) (fun e=>by injection e with e;omega)).trans hT
                   refine m.out _ _ (A.out _ aw) (fun _=>?_)
                   clear m K i a F
                   refine Zc 11 (by kernel_rfl) rfl (fun K m=>?_)
                   refine step_append_lies x3 rfl (.tmp 133) (.tmp 135) 42 rfl w10.heap.size 87 j0 _ 3 24 Tryz.underlying42 Y a3 a4 a6 rfl (by omega) (.slice (some ⟨gh,0,none⟩) f ch) f (Zg (ss.take f)) rfl hH ⟨gt,0,none⟩ 1 1 [.int .i64 cl,.int .i64 sq,.int .i64 n] rfl rfl (World.news_of_block (cs:=#[.int .i64 cl,.int .i64 sq,.int .i64 n]) hT) (by simp [Value.oneCell']) (by omega) (by unfold maxLen;omega) (by omega) (by omega) x3.heap.size rfl ?_
                   intro ga ca T i a F M
                   have hA:T.ownsRow w10.heap.size 87 3 (.slice (some ⟨ga,0,none⟩) (f+1) ca) (f+1) (Zg (ss.take f++[(cl,sq,n)])):=by
                    rw [ZO]
                    exact i
                   have cK:=a.size
                   have U:Below w10.heap.size w10 T:=aw.grown a (by omega) (fun q e=>by
                    have e':gh=q:=by simpa [Value.ownBlock] using e
                    have:=(World.ownsRow.lt hH gh rfl).1
                    omega)
                   refine m.out _ _ (A.out _ U) (fun _=>?_)
                   clear m K i a
                   refine Zc 13 (by kernel_rfl) rfl (fun K m=>?_)
                   refine Zj T rfl (.tmp 136) (.tmp 137) 42 rfl w10.heap.size 87 j0 _ 3 24 Tryz.underlying42 Y a3 a4 a6 rfl (by omega) ga (f+1) ca (Zg (ss.take f++[(cl,sq,n)])) rfl hA (some ⟨gr,0,none⟩) (ss.length-f) cr (Zg (ss.drop f)) rfl (cD.out _ U) (by unfold maxLen;omega) (by omega) (by omega) T.heap.size rfl ?_
                   intro gz cz C i a F M
                   have hZ:Zq w10.heap.size C gz cz (ss.take f++(cl,sq,n)::ss.drop f):=by
                    refine Zq.of i (by simp <;> omega) ?_
                    rw [<-ZO,List.append_assoc]
                    rfl
                   have d1:=a.size
                   have l:Below w10.heap.size w10 C:=U.grown a (by omega) (fun q e=>by
                    injection e with e
                    have:=(World.ownsRow.lt hA ga rfl).1
                    omega)
                   have bh:f+1+(ss.length-f)=ss.length+1:=by omega
                   rw [bh]
                   refine m.out _ _ (A.out _ l) (fun _=>?_)
                   clear m K i a hA
                   refine Zc 14 (by kernel_rfl) rfl (fun K m=>?_)
                   go_simp
                   refine m.out _ _ (A.out _ l) (fun _=>?_)
                   clear m K
                   refine Zc 15 (by kernel_rfl) rfl (fun K m=>?_)
                   go_simp
                   refine m.out _ _ (A.out _ l) (fun _=>?_)
                   clear m K
                   refine wpAnyH_done (by kernel_rfl) ?_ _
                   simp only [Exit.then]
                   have t8:=(l.block D an).trans R.out.cells
                   obtain⟨-,-,-,-,-,u5,uf,-⟩:=Zh t8
                   have dn:=uf 5
                   have be:Hid (∀w':World,w'=C.setCell ⟨D,5,none⟩ (.slice (some ⟨gz,0,none⟩) (ss.length+1) cz)->DBx base D w' t (ss.take f++(cl,sq,n)::ss.drop f) H c' aA I G J (some ⟨gz,0,none⟩) cz aE aK/\Below base w w'):=Za (fun w' e=>by
                    have a2:∀b,b≠D->w'.heap[b]? =C.heap[b]? :=fun b hb=>by rw [e];exact Below.heap_setCell C ⟨D,5,none⟩ _ b (fun e=>hb e)
                    have bQ:w'.heap.size=C.heap.size:=by rw [e,Ze]
                    have hl:(ss.take f++(cl,sq,n)::ss.drop f).length=ss.length+1:=by simp <;> omega
                    have da:=hZ.lt.1
                    have bl:w'.heap[D]? =some (.cells #[.int .i64 t.wd,.slice H I.length c',.int .i64 t.d,.slice G t.ts.length J,.int .i64 t.nx,.slice (some ⟨gz,0,none⟩) (ss.length+1) cz] 44):=by rw [e];exact Zef t8
                    refine⟨R.out.told (by rw [hl];exact bl) (Or.inr ⟨gz,rfl,Zq.mono (ZR hZ (a2 gz (by omega))) (by omega)⟩) (fun q eq=>by
                     injection eq with eq
                     injection eq with eq
                     exact Or.inr (by omega)) ⟨by rw [e];exact l.os,by rw [e];exact l.tape,by rw [e];exact l.output,by have:=l.size;omega,fun b hb hn=>(a2 b (fun k=>hn (Or.inl k))).trans (l.block b hb)⟩,?_⟩
                    rw [e]
                    exact (Below.trans N.out (l.mono (by have:=N.out.size;omega))).setCell (by have:=bv.out;show base<=D;omega) _)
                   clear t8 uf hZ hH hT U l
                   go_wp2_with fail
                   refine NoPanic.normal ?_
                   go_wp2_with fail
                   go_ret
                   obtain⟨y1,y2,y3⟩:=aO.out
                   have y4:Za3 (cl,sq,n) ss=ss.take f++(cl,sq,n)::ss.drop f:=bE.out
                   rw [y1,y2,y3,y4]
                   obtain⟨h1,h2⟩:=be.out _ rfl
                   exact⟨rfl,⟨_,_,_,_,_,_,_,_,_,_,h1⟩,h2⟩
               · go_simp
                 obtain⟨V,ae⟩:∃w0,x0.alloc (.cells #[.int .i64 cl,.int .i64 sq,.int .i64 n] 87)=w0:=⟨_,rfl⟩
                 have bw:=balZ ae
                 obtain⟨gt,aa⟩:∃q,x0.heap.size=q:=⟨_,rfl⟩
                 have hT:=nal2Z ae aa
                 have dt:x0.heap.size<=gt/\gt<=x0.heap.size:=by omega
                 have dW:=altZ ae
                 first | rw [ae] | skip
                 first | rw [aa] | skip
                 have aL:=Zb cq bw
                 refine m.out _ _ (A.out _ aL) (fun _=>?_)
                 clear m K bw ae aa
                 refine Zc 1 (by kernel_rfl) rfl (fun K m=>?_)
                 go_simp
                 generalize ab:World.alloc _ _=X
                 have aB:=balZ ab
                 obtain⟨ge,aH⟩:∃q,V.heap.size=q:=⟨_,rfl⟩
                 have hE:Zq w10.heap.size X ge 0 []:=by rw [<-ab,<-aH];exact Zq.start V _ (by omega)
                 have eb:V.heap.size<=ge/\ge<=V.heap.size:=by omega
                 have db:=altZ ab
                 first | rw [ab] | skip
                 first | rw [aH] | skip
                 have ak:=Zb aL aB
                 replace hT:=(aB.block gt (by omega)).trans hT
                 refine m.out _ _ (A.out _ ak) (fun _=>?_)
                 clear m K aB ab aH
                 refine Zc 8 (by kernel_rfl) rfl (fun K m=>?_)
                 refine Zj X rfl (.tmp 126) (.tmp 132) 42 rfl w10.heap.size 87 j0 _ 3 24 Tryz.underlying42 Y a3 a4 a6 rfl (by omega) ge 0 0 [] rfl hE (sa) f (sc) (Zg (ss.take f)) rfl (ah.out _ ak) (by unfold maxLen;omega) (by omega) (by omega) X.heap.size rfl ?_
                 intro gh ch x3 i a F M
                 rw [Nat.zero_add] at i ⊢
                 have hH:x3.ownsRow w10.heap.size 87 3 (.slice (some ⟨gh,0,none⟩) f ch) f (Zg (ss.take f)):=i
                 have cV:=a.size
                 have dq:gh=ge\/X.heap.size<=gh:=by
                  rcases F with e | e
                  · exact Or.inl (by first | exact e | exact e.symm | (injection e with e;exact e.symm))
                  · exact Or.inr (by omega)
                 have aw:Below w10.heap.size w10 x3:=ak.grown a (by omega) (fun q e=>by injection e with e;omega)
                 replace hT:=(a.block gt (by omega) (fun e=>by injection e with e;omega)).trans hT
                 refine m.out _ _ (A.out _ aw) (fun _=>?_)
                 clear m K i a F
                 refine Zc 11 (by kernel_rfl) rfl (fun K m=>?_)
                 refine step_append_lies x3 rfl (.tmp 133) (.tmp 135) 42 rfl w10.heap.size 87 j0 _ 3 24 Tryz.underlying42 Y a3 a4 a6 rfl (by omega) (.slice (some ⟨gh,0,none⟩) f ch) f (Zg (ss.take f)) rfl hH ⟨gt,0,none⟩ 1 1 [.int .i64 cl,.int .i64 sq,.int .i64 n] rfl rfl (World.news_of_block (cs:=#[.int .i64 cl,.int .i64 sq,.int .i64 n]) hT) (by simp [Value.oneCell']) (by omega) (by unfold maxLen;omega) (by omega) (by omega) x3.heap.size rfl ?_
                 intro ga ca T i a F M
                 have hA:T.ownsRow w10.heap.size 87 3 (.slice (some ⟨ga,0,none⟩) (f+1) ca) (f+1) (Zg (ss.take f++[(cl,sq,n)])):=by
                  rw [ZO]
                  exact i
                 have cK:=a.size
                 have U:Below w10.heap.size w10 T:=aw.grown a (by omega) (fun q e=>by
                  have e':gh=q:=by simpa [Value.ownBlock] using e
                  have:=(World.ownsRow.lt hH gh rfl).1
                  omega)
                 refine m.out _ _ (A.out _ U) (fun _=>?_)
                 clear m K i a
                 refine Zc 13 (by kernel_rfl) rfl (fun K m=>?_)
                 refine Zj T rfl (.tmp 136) (.tmp 137) 42 rfl w10.heap.size 87 j0 _ 3 24 Tryz.underlying42 Y a3 a4 a6 rfl (by omega) ga (f+1) ca (Zg (ss.take f++[(cl,sq,n)])) rfl hA (some ⟨gr,0,none⟩) (ss.length-f) cr (Zg (ss.drop f)) rfl (cD.out _ U) (by unfold maxLen;omega) (by omega) (by omega) T.heap.size rfl ?_
                 intro gz cz C i a F M
                 have hZ:Zq w10.heap.size C gz cz (ss.take f++(cl,sq,n)::ss.drop f):=by
                  refine Zq.of i (by simp <;> omega) ?_
                  rw [<-ZO,List.append_assoc]
                  rfl
                 have d1:=a.size
                 have l:Below w10.heap.size w10 C:=U.grown a (by omega) (fun q e=>by
                  injection e with e
                  have:=(World.ownsRow.lt hA ga rfl).1
                  omega)
                 have bh:f+1+(ss.length-f)=ss.length+1:=by omega
                 rw [bh]
                 refine m.out _ _ (A.out _ l) (fun _=>?_)
                 clear m K i a hA
                 refine Zc 14 (by kernel_rfl) rfl (fun K m=>?_)
                 go_simp
                 refine m.out _ _ (A.out _ l) (fun _=>?_)
                 clear m K
                 refine Zc 15 (by kernel_rfl) rfl (fun K m=>?_)
                 go_simp
                 refine m.out _ _ (A.out _ l) (fun _=>?_)
                 clear m K
                 refine wpAnyH_done (by kernel_rfl) ?_ _
                 simp only [Exit.then]
                 have t8:=(l.block D an).trans R.out.cells
                 obtain⟨-,-,-,-,-,u5,uf,-⟩:=Zh t8
                 have dn:=uf 5
                 have be:Hid (∀w':World,w'=C.setCell ⟨D,5,none⟩ (.slice (some ⟨gz,0,none⟩) (ss.length+1) cz)->DBx base D w' t (ss.take f++(cl,sq,n)::ss.drop f) H c' aA I G J (some ⟨gz,0,none⟩) cz aE aK/\Below base w w'):=Za (fun w' e=>by
                  have a2:∀b,b≠D->w'.heap[b]? =C.heap[b]? :=fun b hb=>by rw [e];exact Below.heap_setCell C ⟨D,5,none⟩ _ b (fun e=>hb e)
                  have bQ:w'.heap.size=C.heap.size:=by rw [e,Ze]
                  have hl:(ss.take f++(cl,sq,n)::ss.drop f).length=ss.length+1:=by simp <;> omega
                  have da:=hZ.lt.1
                  have bl:w'.heap[D]? =some (.cells #[.int .i64 t.wd,.slice H I.length c',.int .i64 t.d,.slice G t.ts.length J,.int .i64 t.nx,.slice (some ⟨gz,0,none⟩) (ss.length+1) cz] 44):=by rw [e];exact Zef t8
                  refine⟨R.out.told (by rw [hl];exact bl) (Or.inr ⟨gz,rfl,Zq.mono (ZR hZ (a2 gz (by omega))) (by omega)⟩) (fun q eq=>by
                   injection eq with eq
                   injection eq with eq
                   exact Or.inr (by omega)) ⟨by rw [e];exact l.os,by rw [e];exact l.tape,by rw [e];exact l.output,by have:=l.size;omega,fun b hb hn=>(a2 b (fun k=>hn (Or.inl k))).trans (l.block b hb)⟩,?_⟩
                  rw [e]
                  exact (Below.trans N.out (l.mono (by have:=N.out.size;omega))).setCell (by have:=bv.out;show base<=D;omega) _)
                 clear t8 uf hZ hH hT U l
                 go_wp2_with fail
                 refine NoPanic.normal ?_
                 go_wp2_with fail
                 go_ret
                 obtain⟨y1,y2,y3⟩:=aO.out
                 have y4:Za3 (cl,sq,n) ss=ss.take f++(cl,sq,n)::ss.drop f:=bE.out
                 rw [y1,y2,y3,y4]
                 obtain⟨h1,h2⟩:=be.out _ rfl
                 exact⟨rfl,⟨_,_,_,_,_,_,_,_,_,_,h1⟩,h2⟩
       · have dQ:hh=true/\e1=true:=by simpa using hhe
         obtain⟨hb,he⟩:=dQ
         obtain⟨Z,bn⟩:=cv.out hb
         have aU:(f:Int)<(ss.length:Int):=by omega
         obtain⟨g,rfl,a0⟩:=bL.out f Z
         obtain⟨t0,t1,t2⟩:=a0 w5 aM.out
         rw [bn] at t2
         clear t0 t1 a0 bn hhe
         have br:Hid (Below w.heap.size w w5):=Zb ar.out aM.out
         have cu:=Za (aX.out.next aM.out)
         go_wp2_with fail
         go_ret
         have h0:sq=lb:=by
          have h:=cf.out
          rw [he] at h
          simpa using h
         have h:=bz.out
         unfold apR apS ZcF Zff
         rw [h,aW.out]
         have h2:(sq ==lb+1)=false:=by simp;omega
         have h3:(sq ==lb)=true:=by simp [h0]
         simp only [h2,h3,Bool.and_false,Bool.false_eq_true,if_false,if_true]
         exact⟨rfl,⟨ag,c,og,ds,va,vc,_,sc,lo,hi,cu.out⟩,br.out.mono aI.out⟩
def ZlB(lo:Nat)(w:World)(v:Value)(s:St5)(ss:List Zv):Prop:=∃am cm aw cw aq cq,v=.agg #[.int .i64 s.wd,.slice am s.ms.length cm,.int .i64 s.d,.slice aw s.ts.length cw,.int .i64 s.nx,.slice aq ss.length cq]/\∀W':World,w.heap.size<=W'.heap.size->(∀b,lo<=b->b<w.heap.size->W'.heap[b]? =w.heap[b]?)->Zo W' am s.ms/\Zp true W' aw s.ts/\Zm W' aq ss
theorem DkP.vp{lo:Nat}{w:World}{v:Value}{s:St5}{ss:List Zv}(h:DkP (Btw lo w.heap.size) w v s ss):ZlB lo w v s ss:=by
 obtain⟨n,g,j,i,c,l,e,-,-,-,d⟩:=DkO.view h
 exact⟨n,g,j,i,c,l,e,fun m f k=>d m ⟨f,fun b a=>k b a.1 a.2⟩⟩
theorem Zht(am aw aq ap:Option Addr)(cm cw cs cp:Nat)(wd d nx cl sq kd id:Int)(ms:List Mk)(ts:List Wb)(ss:List Zv)(p:List Int)(w:World)(hm:Zo w am ms)(hv:Zp true w aw ts)(hs:Zm w aq ss)(hsm:Z0 ms ts)(hlen:ss.length<=1048576)(hdk:dkB wd ms d ts nx ss=false):
 Calls Tryz.prog 9 #[.agg #[.int .i64 wd,.slice am ms.length cm,.int .i64 d,.slice aw ts.length cw,.int .i64 nx,.slice aq ss.length cs],.agg #[.int .i64 cl,.int .i64 sq,.int .i64 kd,.int .i64 id,.slice ap p.length cp]] w fun e w'=>e=.returned (.tuple #[.agg #[.int .i64 0,.slice none 0 0,.int .i64 0,.slice none 0 0,.int .i64 0,.slice none 0 0],.int .i64 (-2)])/\Below w.heap.size w w':=by
 obtain⟨j,a⟩:∃W,w.alloc (.cells #[.int .i64 wd,.slice am ms.length cm,.int .i64 d,.slice aw ts.length cw,.int .i64 nx,.slice aq ss.length cs] 44)=W:=⟨_,rfl⟩
 obtain⟨f,b⟩:∃W,j.alloc (.cells #[.int .i64 cl,.int .i64 sq,.int .i64 kd,.int .i64 id,.slice ap p.length cp] 48)=W:=⟨_,rfl⟩
 obtain⟨W,k⟩:∃W,f.alloc (.cells #[.int .i64 0,.slice none 0 0,.int .i64 0,.slice none 0 0,.int .i64 0,.slice none 0 0] 44)=W:=⟨_,rfl⟩
 have s1:=salZ a
 have s2:f.heap.size=w.heap.size+1+1:=by rw [<-b];simp [s1]
 have s3:W.heap.size=w.heap.size+1+1+1:=by rw [<-k];simp [s2]
 have z:=balZ a
 have n:=balZ b
 have q:=balZ k
 have x:W.heap[w.heap.size]? =some (.cells #[.int .i64 wd,.slice am ms.length cm,.int .i64 d,.slice aw ts.length cw,.int .i64 nx,.slice aq ss.length cs] 44):=(q.block _ (by omega)).trans ((n.block _ (by omega)).trans (by rw [<-a];exact heap_alloc_new w _))
 have y:=nal2Z k s2
 have i:=Zb (Zb z n) q
 have S:=Za i
 have s:=Za s3
 have m:=Za y
 have l:=Za (Zj4 true am aw aq cm cw cs wd ms d ts nx ss W (hm.next i) (hv.next i) (hs.next i) hsm (by omega))
 rw [hdk] at l
 obtain⟨Q,G,H,K,R,J,-,-⟩:=Zh x
 have h:Hid _:=aw3Z a b k
 clear hm hv hs hsm hdk a b k s1 s2 s3 z n q x y i
 go_enter Tryz.func9,Tryz.ntmps9
 go_upto_region 1 with fail
 rw [h.out]
 clear h
 go_wp2_with fail
 refine l.out.mono ?_
 rintro e T ⟨rfl,r⟩
 have Z:=s.out
 have o:=(r.block _ (by omega)).trans m.out
 obtain⟨X,r1,r2,r3,Y,r5,g,L⟩:=Zh o
 have P:=g 0
 have A:=g 1
 have F:=g 2
 have V:=g 3
 have M:=g 4
 have C:=g 5
 have t:=Zaf (a':=.int .i64 0) (b':=.slice none 0 0) (c':=.int .i64 0) (d':=.slice none 0 0) (e':=.int .i64 0) (f':=.slice none 0 0) o
 obtain⟨E,B,D,O,U,I,-,-⟩:=Zh t
 have c:w.heap.size<=w.heap.size+1+1:=by omega
 have u:=Zb S.out r
 have N:Hid (Below w.heap.size w ((((((T.setCell ⟨w.heap.size+1+1,0,none⟩ (.int .i64 0)).setCell ⟨w.heap.size+1+1,1,none⟩ (.slice none 0 0)).setCell ⟨w.heap.size+1+1,2,none⟩ (.int .i64 0)).setCell ⟨w.heap.size+1+1,3,none⟩ (.slice none 0 0)).setCell ⟨w.heap.size+1+1,4,none⟩ (.int .i64 0)).setCell ⟨w.heap.size+1+1,5,none⟩ (.slice none 0 0))):=((((((u.setCell (p:=⟨w.heap.size+1+1,0,none⟩) c _).setCell (p:=⟨w.heap.size+1+1,1,none⟩) c _).setCell (p:=⟨w.heap.size+1+1,2,none⟩) c _).setCell (p:=⟨w.heap.size+1+1,3,none⟩) c _).setCell (p:=⟨w.heap.size+1+1,4,none⟩) c _).setCell (p:=⟨w.heap.size+1+1,5,none⟩) c _)
 clear Q G H K R J l r u t o
 go_wp2_with fail
 refine bodyPost_ret (v:=.tuple #[.agg #[.int .i64 0,.slice none 0 0,.int .i64 0,.slice none 0 0,.int .i64 0,.slice none 0 0],.int .i64 (-2)]) (by simp [results,Tryz.results9,go_sem,E,B,D,O,U,I]) rfl ?_
 exact⟨rfl,N.out⟩
theorem ZlD(am aw aq ap:Option Addr)(cm cw cs cp:Nat)(wd d nx cl sq kd id:Int)(ms:List Mk)(ts:List Wb)(ss:List Zv)(p:List Int)(w:World)(hm:Zo w am ms)(hv:Zp true w aw ts)(hs:Zm w aq ss)(hp:Zy w ap p)(hpl:p.length<=1048576)(hsm:Z0 ms ts)(hdk:dkB wd ms d ts nx ss=true):
 Calls Tryz.prog 9 #[.agg #[.int .i64 wd,.slice am ms.length cm,.int .i64 d,.slice aw ts.length cw,.int .i64 nx,.slice aq ss.length cs],.agg #[.int .i64 cl,.int .i64 sq,.int .i64 kd,.int .i64 id,.slice ap p.length cp]] w fun e w'=>∃x,e=.returned (.tuple #[x,.int .i64 (apR ⟨wd,ms,d,ts,nx⟩ ss cl sq kd id p)])/\ZlB w.heap.size w' x (apS ⟨wd,ms,d,ts,nx⟩ ss cl sq kd id p) (ZcF ⟨wd,ms,d,ts,nx⟩ ss cl sq kd id p)/\Below w.heap.size w w':=by
 obtain⟨t,ht⟩:∃t,apS ⟨wd,ms,d,ts,nx⟩ ss cl sq kd id p=t:=⟨_,rfl⟩
 obtain⟨a,j⟩:∃a,ZcF ⟨wd,ms,d,ts,nx⟩ ss cl sq kd id p=a:=⟨_,rfl⟩
 obtain⟨rr,J⟩:∃rr,apR ⟨wd,ms,d,ts,nx⟩ ss cl sq kd id p=rr:=⟨_,rfl⟩
 have G:=Za (And.intro ht (And.intro j J))
 rw [ht,j,J]
 clear ht j J
 obtain⟨F,D⟩:stB wd ms d ts nx=true/\ssB ss=true:=by unfold dkB at hdk;simpa using hdk
 have T:ss.length<=8:=((ZbF ss).1 D).1
 obtain⟨V,X,-,-⟩:=ZaY F
 obtain⟨M,l⟩:∃W,w.alloc (.cells #[.int .i64 wd,.slice am ms.length cm,.int .i64 d,.slice aw ts.length cw,.int .i64 nx,.slice aq ss.length cs] 44)=W:=⟨_,rfl⟩
 obtain⟨K,k⟩:∃W,M.alloc (.cells #[.int .i64 cl,.int .i64 sq,.int .i64 kd,.int .i64 id,.slice ap p.length cp] 48)=W:=⟨_,rfl⟩
 obtain⟨W,hW⟩:∃W,K.alloc (.cells #[.int .i64 0,.slice none 0 0,.int .i64 0,.slice none 0 0,.int .i64 0,.slice none 0 0] 44)=W:=⟨_,rfl⟩
 have s1:=salZ l
 have s2:K.heap.size=w.heap.size+1+1:=by rw [<-k];simp [s1]
 have s3:W.heap.size=w.heap.size+1+1+1:=by rw [<-hW];simp [s2]
 have b1:=balZ l
 have b2:=balZ k
 have b3:=balZ hW
 have hD:W.heap[w.heap.size]? =some (.cells #[.int .i64 wd,.slice am ms.length cm,.int .i64 d,.slice aw ts.length cw,.int .i64 nx,.slice aq ss.length cs] 44):=(b3.block _ (by omega)).trans ((b2.block _ (by omega)).trans (by rw [<-l];exact heap_alloc_new w _))
 have hC:W.heap[w.heap.size+1]? =some (.cells #[.int .i64 cl,.int .i64 sq,.int .i64 kd,.int .i64 id,.slice ap p.length cp] 48):=(b3.block _ (by omega)).trans (by rw [<-k,<-s1];exact heap_alloc_new M _)
 have hR:=nal2Z hW s2
 have Y:=Zb (Zb b1 b2) b3
 have HB:=Za Y
 have aB:=Za s3
 have aO:=Za hD
 have aj:=Za hC
 have aF:=Za hR
 have HC:=Za (Zj4 true am aw aq cm cw cs wd ms d ts nx ss W (hm.next Y) (hv.next Y) (hs.next Y) hsm (by omega))
 rw [hdk] at HC
 have aK:=Za (fun (W':World) (L:Below w.heap.size w W')=>ZpI am aw aq cm cw cs wd d nx ms ts ss W' (hm.next L) (hv.next L) (hs.next L) V X (by omega))
 have P:=Za (And.intro hp hpl)
 have E:=Za (And.intro F (And.intro D hsm))
 obtain⟨k0,k1,k2,k3,k4,k5,-,-⟩:=Zh hD
 have a0:Hid _:=aw3Z l k hW
 clear hm hv hs hp hpl hsm hdk F D V X l k hW s1 s2 s3 b1 b2 b3 hD hC hR Y T
 go_enter Tryz.func9,Tryz.ntmps9
 go_upto_region 1 with fail
 rw [a0.out]
 clear a0
 go_wp2_with fail
 refine HC.out.mono ?_
 rintro e W0 ⟨rfl,L1⟩
 have C:=Za L1
 have hz:=aB.out
 clear k0 k1 k2 k3 k4 k5
 obtain⟨k0,k1,k2,k3,k4,k5,-,-⟩:=Zh ((L1.block _ (by omega)).trans aO.out)
 clear L1 HC
 go_wp2_with fail
 refine (aK.out W0 (Zb HB.out C.out)).mono ?_
 rintro e A ⟨gm,c,ds,va,vc,gs,sc,n0,lo,hi,rfl,B,n,I,ax,a1,L4⟩
 obtain⟨s,i⟩:∃s,A.alloc (.cells #[.int .i64 wd,.slice (some ⟨gm,0,none⟩) ms.length c,.int .i64 d,.slice va ts.length vc,.int .i64 nx,.slice (some ⟨gs,0,none⟩) ss.length sc] 44)=s:=⟨_,rfl⟩
 have b5:=balZ i
 have h5:=nalZ i
 have U:=salZ i
 have R:ds.length=ms.length:=by rw [<-B,ZI]
 have bf:=Za L4
 have y:=Za (Zb C.out (Zb L4 b5))
 have aC:Hid (DBox W0.heap.size A.heap.size s ⟨wd,ms,d,ts,nx⟩ ss):=by
  have az:=n.stay (w':=s) b5.size (fun b _ h2=>b5.block b (by have:=n.2.2.2.2.1;omega))
  obtain⟨c1,c2,c3,c4,c5,c6,c7⟩:=az
  have aW:=n.2.2.2.2.1
  exact⟨some ⟨gm,0,none⟩,c,some gm,ds,va,vc,some ⟨gs,0,none⟩,sc,lo,hi,⟨by rw [R];exact h5,B,(ZdR c1 a1).drv,fun x hx=>by have:=c7 x hx;omega,c2,c5,by omega,fun g e=>by injection e with e;omega,by omega,Or.inr ⟨gs,rfl,ZR I (b5.block gs I.lt.2)⟩,fun q e=>by
   injection e with e
   injection e with e
   omega⟩⟩
 have ay:=L4.size
 have Q:=Za (ZpL W0.heap.size A.heap.size ⟨wd,ms,d,ts,nx⟩ ss ap cp cl sq kd id p s aC.out E.out.1 E.out.2.1 E.out.2.2 ay (P.out.1.next (Zb HB.out y.out)) P.out.2)
 have bc:=C.out.size
 obtain⟨c0,c1,c2,c3,c4,-,-⟩:=Zk ((y.out.block _ (by omega)).trans aj.out)
 have aQ:Hid (s.heap[w.heap.size+1+1]? =some (.cells #[.int .i64 0,.slice none 0 0,.int .i64 0,.slice none 0 0,.int .i64 0,.slice none 0 0] 44)):=(y.out.block _ (by omega)).trans aF.out
 have ak:=Za i
 have aM:=Za U
 rw [G.out.1,G.out.2.1,G.out.2.2] at Q
 clear B n I ax a1 L4 b5 h5 R i U k0 k1 k2 k3 k4 k5
 go_upto_region 4 with fail
 rw [ak.out]
 go_wp2_with fail
 refine Q.out.mono ?_
 rintro e w6 ⟨rfl,⟨ag,c',og,H,o,u,sa,m,bk,bn,r⟩,L6⟩
 have bj:=aM.out
 have Z:=r.len
 obtain⟨o0,o1,o2,o3,o4,o5,-,-⟩:=Zh r.cells
 have tr:=(L6.block (w.heap.size+1+1) (by omega)).trans aQ.out
 obtain⟨r0,r1,r2,r3,r4,r5,N,bo⟩:=Zh tr
 have bt:=N 0
 have bg:=N 1
 have be:=N 2
 have bw:=N 3
 have bp:=N 4
 have bd:=N 5
 have an:=Za r
 have aR:=Za L6
 have aP:=Za tr
 have ac:=Za Z
 clear r L6 tr c0 c1 c2 c3 c4 Z
 go_wp2_with fail
 have t6:=Zaf (a':=.int .i64 t.wd) (b':=.slice ag H.length c') (c':=.int .i64 t.d) (d':=.slice o t.ts.length u) (e':=.int .i64 t.nx) (f':=.slice sa a.length m) aP.out
 obtain⟨q0,q1,q2,q3,q4,q5,-,-⟩:=Zh t6
 obtain⟨z,f⟩:∃z,(((((w6.setCell ⟨w.heap.size+1+1,0,none⟩ (.int .i64 t.wd)).setCell ⟨w.heap.size+1+1,1,none⟩ (.slice ag H.length c')).setCell ⟨w.heap.size+1+1,2,none⟩ (.int .i64 t.d)).setCell ⟨w.heap.size+1+1,3,none⟩ (.slice o t.ts.length u)).setCell ⟨w.heap.size+1+1,4,none⟩ (.int .i64 t.nx)).setCell ⟨w.heap.size+1+1,5,none⟩ (.slice sa a.length m)=z:=⟨_,rfl⟩
 have far:∀b,b≠w.heap.size+1+1->z.heap[b]? =w6.heap[b]? :=fun b hb=>by rw [<-f];exact Zau hb
 have bb:z.heap.size=w6.heap.size:=by rw [<-f];simp [World.setCell]
 have O:w.heap.size<=w.heap.size+1+1:=by omega
 have BZ:Below w.heap.size w z:=by
  rw [<-f]
  have hb:=Below.trans (Zb HB.out y.out) (aR.out.mono (by have:=HB.out.size;omega))
  exact ((((((hb.setCell (p:=⟨w.heap.size+1+1,0,none⟩) O _).setCell (p:=⟨w.heap.size+1+1,1,none⟩) O _).setCell (p:=⟨w.heap.size+1+1,2,none⟩) O _).setCell (p:=⟨w.heap.size+1+1,3,none⟩) O _).setCell (p:=⟨w.heap.size+1+1,4,none⟩) O _).setCell (p:=⟨w.heap.size+1+1,5,none⟩) O _)
 have S:=an.out.stay (w':=z) (by omega) (fun b h1 h2=>far b (by omega))
 have HE:Hid (ZlB w.heap.size z (.agg #[.int .i64 t.wd,.slice ag t.ms.length c',.int .i64 t.d,.slice o t.ts.length u,.int .i64 t.nx,.slice sa a.length m]) t a/\Below w.heap.size w z):=⟨⟨_,_,_,_,_,_,rfl,fun W' g1 g2=>(S.stay (w':=W') g1 (fun b h1 h2=>g2 b (by omega) h1)).view⟩,BZ⟩
 have aG:=Za f
 clear S BZ far f t6
 refine bodyPost_ret (v:=.tuple #[.agg #[.int .i64 t.wd,.slice ag H.length c',.int .i64 t.d,.slice o t.ts.length u,.int .i64 t.nx,.slice sa a.length m],.int .i64 rr]) (by simp [results,Tryz.results9,go_sem,q0,q1,q2,q3,q4,q5]) rfl ?_
 rw [aG.out]
 refine⟨_,rfl,?_,HE.out.2⟩
 have h:=HE.out.1
 rw [<-ac.out] at h
 exact h
end Go.Proofs.YtilkaeclgmcolaaGreat
