import Derived.Test.YtilkaeclgmcolaaGreatMCopyZz
import Derived.Test.YtilkaeclgmcolaaGreatMSizeZz
import Derived.Test.YtilkaeclgmcolaaGreatArgsZz
import Derived.Test.YtilkaeclgmcolaaGreatLastZz
import Derived.Test.YtilkaeclgmcolaaGreatMArgsZz
set_option maxRecDepth 100000
set_option maxHeartbeats 2000000
namespace Go.Proofs.YtilkaeclgmcolaaGreat
open Go Go.RowKit
structure Zcy(w:World)(X:Nat)(ao:Option Addr)(cap:Nat)(cl sq kd id:Int)(p:List Int):Prop where
 lt:X<w.heap.size
 c0:w.cell? ⟨X,0,none⟩=some (.int .i64 cl)
 c1:w.cell? ⟨X,1,none⟩=some (.int .i64 sq)
 c2:w.cell? ⟨X,2,none⟩=some (.int .i64 kd)
 c3:w.cell? ⟨X,3,none⟩=some (.int .i64 id)
 c4:w.cell? ⟨X,4,none⟩=some (.slice ao p.length cap)
 pv:Zy w ao p
theorem Zcy.box{w:World}{ao:Option Addr}{cap:Nat}{cl sq kd id:Int}{p:List Int}{t:TypeId}(h:Zy w ao p):Zcy (w.alloc (.cells #[.int .i64 cl,.int .i64 sq,.int .i64 kd,.int .i64 id,.slice ao p.length cap] t)) w.heap.size ao cap cl sq kd id p:=
 ⟨by simp,by simp,by simp,by simp,by simp,by simp,h.next ((Below.refl _ _).alloc (Nat.le_refl _) _)⟩
theorem Zcy.below{w w':World}{X:Nat}{ao:Option Addr}{cap:Nat}{cl sq kd id:Int}{p:List Int}(h:Zcy w X ao cap cl sq kd id p)(L:Below w.heap.size w w'):Zcy w' X ao cap cl sq kd id p:=
 ⟨Nat.lt_of_lt_of_le h.lt L.size,(L.cell (p:=⟨X,0,none⟩) h.lt).trans h.c0,(L.cell (p:=⟨X,1,none⟩) h.lt).trans h.c1,(L.cell (p:=⟨X,2,none⟩) h.lt).trans h.c2,(L.cell (p:=⟨X,3,none⟩) h.lt).trans h.c3,(L.cell (p:=⟨X,4,none⟩) h.lt).trans h.c4,h.pv.next L⟩
def cmB(cl sq kd id:Int)(p:List Int):Bool:=inR cl 0 7 && (inR sq 1 1000000 && (if (kd ==1)=true then (id ==0) && okB p else if (kd ==2)=true then inR id 1 1000000 && ((p.length:Int) ==0) else false))
theorem ZiX(ao:Option Addr)(cap:Nat)(cl sq kd id:Int)(p:List Int)(w:World)(hv:Zy w ao p)(hn:p.length<=1048576):
 Calls Tryz.prog 35 #[.agg #[.int .i64 cl,.int .i64 sq,.int .i64 kd,.int .i64 id,.slice ao p.length cap]] w fun e w'=>e=.returned (.bool (cmB cl sq kd id p))/\Below w.heap.size w w':=by
 obtain⟨W,r⟩:∃W,w.alloc (.cells #[.int .i64 cl,.int .i64 sq,.int .i64 kd,.int .i64 id,.slice ao p.length cap] 48)=W:=⟨_,rfl⟩
 have t:=balZ r
 have c:Zcy W w.heap.size ao cap cl sq kd id p:=by rw [<-r];exact Zcy.box hv
 obtain⟨D,m⟩:∃b,inR cl 0 7=b:=⟨_,rfl⟩
 obtain⟨C,o⟩:∃b,inR sq 1 1000000=b:=⟨_,rfl⟩
 obtain⟨A,i⟩:∃b,inR id 1 1000000=b:=⟨_,rfl⟩
 obtain⟨G,n⟩:∃b,okB p=b:=⟨_,rfl⟩
 obtain⟨x,h⟩:∃b,(kd ==1)=b:=⟨_,rfl⟩
 obtain⟨y,k⟩:∃b,(kd ==2)=b:=⟨_,rfl⟩
 obtain⟨z,F⟩:∃b,(id ==0)=b:=⟨_,rfl⟩
 obtain⟨l,E⟩:∃b,((p.length:Int) ==0)=b:=⟨_,rfl⟩
 have d:Hid (cmB cl sq kd id p=(D && (C && (if x=true then z && G else if y=true then A && l else false)))):=by show _=_;rw [cmB,m,o,i,n,h,k,F,E]
 have s:=Za (fun g=>sIn cl 0 7 g)
 have B:=Za (fun g=>sIn sq 1 1000000 g)
 have v:=Za (fun g=>sIn id 1 1000000 g)
 have u:=Za (sOk ao cap p W c.pv hn)
 rw [m] at s
 rw [o] at B
 rw [i] at v
 rw [n] at u
 have L:=c.c0
 have I:=c.c1
 have K:=c.c2
 have J:=c.c3
 have H:=c.c4
 have f:=Za t
 clear t c hv m o i n
 go_enter Tryz.func35,Tryz.ntmps35
 go_wp2_with fail
 refine (s.out _).mono ?_
 rintro e j ⟨rfl,a⟩
 have q:=a.symm
 subst q
 clear r
 cases D with
 | false=>
   go_wp2_with fail
   go_ret
   exact⟨Zd d.out.symm,f.out⟩
 | true=>
   go_wp2_with fail
   refine (B.out _).mono ?_
   rintro e j ⟨rfl,a⟩
   subst a
   cases C with
   | false=>
     go_wp2_with fail
     go_ret
     exact⟨Zd d.out.symm,f.out⟩
   | true=>
     cases x with
     | true=>
       cases z with
       | true=>
         go_wp2_with fail
         refine u.out.mono ?_
         rintro e j ⟨rfl,a⟩
         subst a
         go_wp2_with fail
         go_ret
         exact⟨Zd d.out.symm,f.out⟩
       | false=>
         go_wp2_with fail
         go_ret
         exact⟨Zd d.out.symm,f.out⟩
     | false=>
       cases y with
       | false=>
         go_wp2_with fail
         go_ret
         exact⟨Zd d.out.symm,f.out⟩
       | true=>
         go_wp2_with fail
         refine (v.out _).mono ?_
         rintro e j ⟨rfl,a⟩
         subst a
         cases A with
         | false=>
           go_wp2_with fail
           go_ret
           exact⟨Zd d.out.symm,f.out⟩
         | true=>
           go_wp2_with fail
           go_ret
           exact⟨Zd d.out.symm,f.out⟩
def shV(ao:Option Addr)(cap:Nat)(kd id:Int)(p:List Int):Value:=
 if ((kd ==1) && (id ==0))=true then .iface 130 (.agg #[.slice ao p.length cap]) else if ((kd ==2) && ((p.length:Int) ==0))=true then .iface 133 (.agg #[.int .i64 id]) else .iface 136 (.agg #[])
theorem ZhD(ao:Option Addr)(cap:Nat)(cl sq kd id:Int)(p:List Int)(w:World)(hv:Zy w ao p):
 Calls Tryz.prog 51 #[.agg #[.int .i64 cl,.int .i64 sq,.int .i64 kd,.int .i64 id,.slice ao p.length cap]] w fun e w'=>e=.returned (shV ao cap kd id p)/\Below w.heap.size w w':=by
 obtain⟨W,f⟩:∃W,w.alloc (.cells #[.int .i64 cl,.int .i64 sq,.int .i64 kd,.int .i64 id,.slice ao p.length cap] 48)=W:=⟨_,rfl⟩
 have h:=balZ f
 have a:Zcy W w.heap.size ao cap cl sq kd id p:=by rw [<-f];exact Zcy.box hv
 obtain⟨g,c⟩:∃b,(kd ==1)=b:=⟨_,rfl⟩
 obtain⟨i,d⟩:∃b,(kd ==2)=b:=⟨_,rfl⟩
 obtain⟨z,m⟩:∃b,(id ==0)=b:=⟨_,rfl⟩
 obtain⟨l,j⟩:∃b,((p.length:Int) ==0)=b:=⟨_,rfl⟩
 have n:Hid (shV ao cap kd id p=if (g && z)=true then .iface 130 (.agg #[.slice ao p.length cap]) else if (i && l)=true then .iface 133 (.agg #[.int .i64 id]) else .iface 136 (.agg #[])):=by show _=_;rw [shV,c,d,m,j]
 have s:=a.c0
 have r:=a.c1
 have q:=a.c2
 have t:=a.c3
 have o:=a.c4
 have k:=Za h
 clear h a hv
 go_enter Tryz.func51,Tryz.ntmps51
 cases g <;> cases i <;> cases z <;> cases l <;>
 · go_wp2_with fail
   go_ret
   exact⟨by rw [n.out];rfl,k.out⟩
theorem ZlN (a : Option Addr) (n c : Nat) (w : World) : Sem.run Tryz.prog (method 413 130 (.agg #[.slice a n c]) "loop.example/g00273/impl.ok") w = .ok (290, .agg #[.slice a n c]) w := by kernel_rfl
theorem ZlO (x : Int) (w : World) : Sem.run Tryz.prog (method 413 133 (.agg #[.int .i64 x]) "loop.example/g00273/impl.ok") w = .ok (291, .agg #[.int .i64 x]) w := by kernel_rfl
theorem ZlP (w : World) : Sem.run Tryz.prog (method 413 136 (.agg #[]) "loop.example/g00273/impl.ok") w = .ok (292, .agg #[]) w := by kernel_rfl
theorem ZnH(ao:Option Addr)(cap:Nat)(p:List Int)(w:World)(hv:Zy w ao p)(hn:p.length<=1048576):Calls Tryz.prog 290 #[.agg #[.slice ao p.length cap]] w fun e w'=>e=.returned (.bool (okB p))/\Below w.heap.size w w':=by
 have b:Below w.heap.size w (w.alloc (.cells #[.slice ao p.length cap] 130)):=(Below.refl _ _).alloc (Nat.le_refl _) _
 have c:=Za (pOk ao cap p _ (hv.next b) hn)
 have d:=Za b
 clear b hv
 go_enter Tryz.func290,Tryz.ntmps290
 go_wp2_with fail
 refine c.out.mono ?_
 rintro e f ⟨rfl,a⟩
 subst a
 go_wp2_with fail
 go_ret
 exact⟨rfl,d.out⟩
theorem ZnI(x:Int)(w:World):Calls Tryz.prog 291 #[.agg #[.int .i64 x]] w fun e w'=>e=.returned (.bool (inR x 1 1000000))/\Below w.heap.size w w':=by
 have b:Below w.heap.size w (w.alloc (.cells #[.int .i64 x] 133)):=(Below.refl _ _).alloc (Nat.le_refl _) _
 have c:=Za (Zj1 x (w.alloc (.cells #[.int .i64 x] 133)))
 have d:=Za b
 clear b
 go_enter Tryz.func291,Tryz.ntmps291
 go_wp2_with fail
 refine c.out.mono ?_
 rintro e f ⟨rfl,a⟩
 subst a
 go_wp2_with fail
 go_ret
 exact⟨rfl,d.out⟩
theorem ZnJ(w:World):Calls Tryz.prog 292 #[.agg #[]] w fun e w'=>e=.returned (.bool false)/\Below w.heap.size w w':=by
 have a:Below w.heap.size w (w.alloc (.cells #[] 136)):=(Below.refl _ _).alloc (Nat.le_refl _) _
 go_enter Tryz.func292,Tryz.ntmps292
 go_wp2_with fail
 go_ret
 exact⟨rfl,a⟩
theorem ZiY(ao:Option Addr)(cap:Nat)(cl sq kd id:Int)(p:List Int)(w:World)(hv:Zy w ao p)(hn:p.length<=1048576):
 Calls Tryz.prog 34 #[.agg #[.int .i64 cl,.int .i64 sq,.int .i64 kd,.int .i64 id,.slice ao p.length cap]] w fun e w'=>e=.returned (.bool (cmB cl sq kd id p))/\Below w.heap.size w w':=by
 obtain⟨W,t⟩:∃W,w.alloc (.cells #[.int .i64 cl,.int .i64 sq,.int .i64 kd,.int .i64 id,.slice ao p.length cap] 48)=W:=⟨_,rfl⟩
 have v:=balZ t
 have g:Zcy W w.heap.size ao cap cl sq kd id p:=by rw [<-t];exact Zcy.box hv
 have y:=Za (fun G=>Zj1 sq G)
 have E:=Za (ZhD ao cap cl sq kd id p W g.pv)
 have r:=Za g
 have n:=Za v
 have F:=g.c0
 have B:=g.c1
 have D:=g.c2
 have C:=g.c3
 have A:=g.c4
 clear v g hv
 by_cases h0:0<=cl
 · by_cases h7:cl<=7
   · have f:Hid (cmB cl sq kd id p=(inR sq 1 1000000 && (if (kd ==1)=true then (id ==0) && okB p else if (kd ==2)=true then inR id 1 1000000 && ((p.length:Int) ==0) else false))):=by show _=_;rw [cmB,Zcc h0 h7,Bool.true_and]
     obtain⟨H,z⟩:∃b,inR sq 1 1000000=b:=⟨_,rfl⟩
     rw [z] at y f
     clear z
     go_enter Tryz.func34,Tryz.ntmps34
     go_wp2_with fail
     refine (y.out _).mono ?_
     rintro e I ⟨rfl,q⟩
     have s:=q.symm
     subst s
     clear t
     cases H with
     | false=>
       go_wp2_with fail
       go_ret
       exact⟨Zd f.out.symm,n.out⟩
     | true=>
       go_wp2_with fail
       refine E.out.mono ?_
       rintro e k ⟨rfl,u⟩
       have o:=Za (r.out.pv.next u)
       have j:=Za (Zb n.out u)
       clear u F B D C A
       by_cases hk:((kd ==1) && (id ==0))=true
       · rw [shV,if_pos hk]
         rw [Bool.and_eq_true] at hk
         have d:Hid (cmB cl sq kd id p=okB p):=by show _=_;rw [f.out,if_pos hk.1,hk.2];rfl
         clear hk
         have m:=ZlN ao p.length cap k
         have l:=Za (ZnH ao cap p k o.out hn)
         go_wp2_with fail
         refine l.out.mono ?_
         rintro e x ⟨rfl,i⟩
         have c:=Za (Zb j.out i)
         clear i m
         go_wp2_with fail
         go_ret
         exact⟨Zd d.out.symm,c.out⟩
       · by_cases hg:((kd ==2) && ((p.length:Int) ==0))=true
         · rw [shV,if_neg hk,if_pos hg]
           rw [Bool.and_eq_true] at hg
           have a:(kd ==1)=false:=by have:=hg.1;simp at this;simp [this]
           have d:Hid (cmB cl sq kd id p=inR id 1 1000000):=by show _=_;rw [f.out,a,if_neg (by simp),if_pos hg.1,hg.2];simp
           clear hk hg a
           have m:=ZlO id k
           have l:=Za (ZnI id k)
           go_wp2_with fail
           refine l.out.mono ?_
           rintro e x ⟨rfl,i⟩
           have c:=Za (Zb j.out i)
           clear i m
           go_wp2_with fail
           go_ret
           exact⟨Zd d.out.symm,c.out⟩
         · rw [shV,if_neg hk,if_neg hg]
           have d:Hid (cmB cl sq kd id p=false):=by
            show _=_
            rw [f.out]
            rw [Bool.and_eq_true] at hk hg
            by_cases a:(kd ==1)=true
            · have:(id ==0)=false:=by rcases h:(id ==0) with _ | _;rfl;exact absurd ⟨a,h⟩ hk
              rw [if_pos a,this];rfl
            · rw [if_neg a]
              by_cases hk2:(kd ==2)=true
              · have:((p.length:Int) ==0)=false:=by rcases h:((p.length:Int) ==0) with _ | _;rfl;exact absurd ⟨hk2,h⟩ hg
                rw [if_pos hk2,this];simp
              · rw [if_neg hk2];rfl
           clear hk hg
           have m:=ZlP k
           have l:=Za (ZnJ k)
           go_wp2_with fail
           refine l.out.mono ?_
           rintro e x ⟨rfl,i⟩
           have c:=Za (Zb j.out i)
           clear i m
           go_wp2_with fail
           go_ret
           exact⟨Zd d.out.symm,c.out⟩
   · have f:Hid (cmB cl sq kd id p=false):=by show _=_;rw [cmB,ZdY (lo:=0) h7];rfl
     go_enter Tryz.func34,Tryz.ntmps34
     go_wp2_with fail
     go_ret
     exact⟨Zd f.out.symm,n.out⟩
 · have f:Hid (cmB cl sq kd id p=false):=by show _=_;rw [cmB,Ze3 (hi:=7) h0];rfl
   go_enter Tryz.func34,Tryz.ntmps34
   go_wp2_with fail
   go_ret
   exact⟨Zd f.out.symm,n.out⟩
end Go.Proofs.YtilkaeclgmcolaaGreat
namespace Go.Proofs.YtilkaeclgmcolaaGreat
open Go Go.RowKit Go.Deep
theorem ZlQ{w:World}{q:Nat}{a b c d e:Value}{t:TypeId}(h:w.heap[q]? =some (.cells #[a,b,c,d,e] t)):w.cell? ⟨q,0,none⟩=some a/\w.cell? ⟨q,1,none⟩=some b/\w.cell? ⟨q,2,none⟩=some c/\w.cell? ⟨q,3,none⟩=some d/\w.cell? ⟨q,4,none⟩=some e/\(∀j,w.frozen? ⟨q,j,none⟩=false)/\q<w.heap.size:=by
 refine⟨by simp [World.cell?,h],by simp [World.cell?,h],by simp [World.cell?,h],by simp [World.cell?,h],by simp [World.cell?,h],fun j=>by simp [World.frozen?,h],?_⟩
 rcases Nat.lt_or_ge q w.heap.size with e | e
 · exact e
 · rw [Array.getElem?_eq_none e] at h;cases h
theorem szCm(ao:Option Addr)(cap:Nat)(cl sq kd id:Int)(p:List Int)(left:Int)(w:World)(hv:Zy w ao p)(hn:p.length<=maxLen)(h0:0<=left)(h1:left<=1048576):
 Calls Tryz.prog 8 #[.agg #[.int .i64 cl,.int .i64 sq,.int .i64 kd,.int .i64 id,.slice ao p.length cap],.int .i64 left] w fun e w'=>∃r,e=.returned (.int .i64 r)/\r<=1048576/\(r<0\/p.length<=1048576)/\Below w.heap.size w w':=by
 obtain⟨W,f⟩:∃W,w.alloc (.cells #[.int .i64 cl,.int .i64 sq,.int .i64 kd,.int .i64 id,.slice ao p.length cap] 33)=W:=⟨_,rfl⟩
 have k:=balZ f
 have g:Zcy W w.heap.size ao cap cl sq kd id p:=by rw [<-f];exact Zcy.box hv
 have m:=g.c4
 have l:=Za (szS ao p.length cap left W hn h0 h1)
 have c:=ZdZ p.length (show -1<=left by omega) h1
 have a:=Za (fun h=>ZcH (left:=left) (n:=p.length) h1 h)
 have j:=Za k
 clear k g hv
 obtain⟨r,i⟩:∃r,Zbu left p.length=r:=⟨_,rfl⟩
 rw [i] at l c a
 clear i
 go_enter Tryz.func8,Tryz.ntmps8
 go_wp2_with fail
 refine l.out.mono ?_
 rintro e o ⟨rfl,b⟩
 have d:=b.symm
 subst d
 clear f
 by_cases hneg:r<0
 · go_wp2_with fail
   go_ret
   exact⟨-1,rfl,by omega,Or.inl (by omega),j.out⟩
 · go_wp2_with fail
   go_ret
   exact⟨r,rfl,by omega,Or.inr (a.out (by omega)),j.out⟩
theorem toCm(ao:Option Addr)(cap:Nat)(cl sq kd id:Int)(p:List Int)(w:World)(hv:Zy w ao p)(hn:p.length<=1048576):
 Calls Tryz.prog 11 #[.agg #[.int .i64 cl,.int .i64 sq,.int .i64 kd,.int .i64 id,.slice ao p.length cap]] w fun e w'=>∃b,e=.returned (.agg #[.int .i64 cl,.int .i64 sq,.int .i64 kd,.int .i64 id,.slice (some ⟨b,0,none⟩) p.length p.length])/\Own w' b p/\w.heap.size<=b/\Below w.heap.size w w':=by
 obtain⟨f,c⟩:∃W,w.alloc (.cells #[.int .i64 cl,.int .i64 sq,.int .i64 kd,.int .i64 id,.slice ao p.length cap] 33)=W:=⟨_,rfl⟩
 obtain⟨d,a⟩:∃W,f.alloc (.cells #[.int .i64 0,.int .i64 0,.int .i64 0,.int .i64 0,.slice none 0 0] 48)=W:=⟨_,rfl⟩
 obtain⟨W,n⟩:∃W,d.alloc (.cells #[.int .i64 cl,.int .i64 sq,.int .i64 kd,.int .i64 id,.slice none 0 0] 48)=W:=⟨_,rfl⟩
 have s1:=salZ c
 have s2:d.heap.size=w.heap.size+1+1:=by rw [<-a];simp [s1]
 have r:W.heap.size=w.heap.size+1+1+1:=by rw [<-n];simp [s2]
 have D:=balZ c
 have u:=balZ a
 have o:=balZ n
 have s:Below w.heap.size w W:=Zb (Zb D u) o
 have m:W.heap[w.heap.size]? =some (.cells #[.int .i64 cl,.int .i64 sq,.int .i64 kd,.int .i64 id,.slice ao p.length cap] 33):=(o.block _ (by omega)).trans ((u.block _ (by omega)).trans (by rw [<-c];exact heap_alloc_new w _))
 have h:W.heap[w.heap.size+1]? =some (.cells #[.int .i64 0,.int .i64 0,.int .i64 0,.int .i64 0,.slice none 0 0] 48):=(o.block _ (by omega)).trans (by rw [<-a,<-s1];exact heap_alloc_new f _)
 have j:=nal2Z n s2
 obtain⟨U,K,S,L,M,-,-⟩:=ZlQ m
 have C:=Za (toS ao cap p W (hv.next s) hn)
 have X:=Za s
 have y:=Za (And.intro m (And.intro h j))
 have t:Hid _:=aw3Z c a n
 clear s hv D u o m h j c a n U K S L M
 go_enter Tryz.func11,Tryz.ntmps11
 go_wp2_with fail
 rw [t.out]
 refine C.out.mono ?_
 rintro e w2 ⟨b,rfl,z,l,q⟩
 obtain⟨m,h,j⟩:=y.out
 have u1:=(q.block _ (by omega)).trans h
 have u2:=(q.block _ (by omega)).trans j
 obtain⟨O,J,H,T,I,g,-⟩:=ZlQ u1
 obtain⟨h0,h1,h2,h3,h4,A,-⟩:=ZlQ u2
 have Y:=g 0
 have Z:=g 1
 have G:=g 2
 have F:=g 3
 have N:=g 4
 have Q:=A 4
 have V:=Za (And.intro z (And.intro l (Zb X.out q)))
 have R:=Za r
 clear m h j u1 u2 z l q g A C y
 go_wp2_with fail
 refine bodyPost_ret (v:=.agg #[.int .i64 cl,.int .i64 sq,.int .i64 kd,.int .i64 id,.slice (some ⟨b,0,none⟩) p.length p.length]) (by simp [results,Tryz.results11,go_sem,O,J,H,T,I]) rfl ?_
 obtain⟨E,q2,P⟩:=V.out
 have hz:=R.out
 refine⟨b,rfl,?_,by omega,(((((P.setCell (by show w.heap.size<=w.heap.size+1+1;omega) _).setCell (by show w.heap.size<=w.heap.size+1;omega) _).setCell (by show w.heap.size<=w.heap.size+1;omega) _).setCell (by show w.heap.size<=w.heap.size+1;omega) _).setCell (by show w.heap.size<=w.heap.size+1;omega) _).setCell (by show w.heap.size<=w.heap.size+1;omega) _⟩
 have far:∀(x:World) (k i:Nat) (v:Value),k≠b->Own x b p->Own (x.setCell ⟨k,i,none⟩ v) b p:=fun x k i v hk B=>by
  unfold Own at B ⊢
  rw [Below.heap_setCell x ⟨k,i,none⟩ v b (fun e=>hk e.symm)]
  exact B
 exact far _ _ _ _ (by omega) (far _ _ _ _ (by omega) (far _ _ _ _ (by omega) (far _ _ _ _ (by omega) (far _ _ _ _ (by omega) (far _ _ _ _ (by omega) E)))))
theorem eqCm(ao bo:Option Addr)(ca cb:Nat)(cl sq kd id:Int)(p:List Int)(w:World)(hv:Zy w ao p)(hv':Zy w bo p)(hn:p.length<=1048576):
 Calls Tryz.prog 14 #[.agg #[.int .i64 cl,.int .i64 sq,.int .i64 kd,.int .i64 id,.slice ao p.length ca],.agg #[.int .i64 cl,.int .i64 sq,.int .i64 kd,.int .i64 id,.slice bo p.length cb]] w fun e w'=>e=.returned (.bool true)/\Below w.heap.size w w':=by
 obtain⟨g,b⟩:∃W,w.alloc (.cells #[.int .i64 cl,.int .i64 sq,.int .i64 kd,.int .i64 id,.slice ao p.length ca] 48)=W:=⟨_,rfl⟩
 have d:=balZ b
 have j:Zcy g w.heap.size ao ca cl sq kd id p:=by rw [<-b];exact Zcy.box hv
 obtain⟨W,l⟩:∃W,g.alloc (.cells #[.int .i64 cl,.int .i64 sq,.int .i64 kd,.int .i64 id,.slice bo p.length cb] 48)=W:=⟨_,rfl⟩
 have f:=balZ l
 have h:=salZ b
 have a:Zcy W g.heap.size bo cb cl sq kd id p:=by rw [<-l];exact Zcy.box (hv'.next d)
 rw [h] at a
 have c:=j.below f
 have E:=c.c0
 have s:=c.c1
 have B:=c.c2
 have x:=c.c3
 have q:=c.c4
 have z:=a.c0
 have v:=a.c1
 have t:=a.c2
 have D:=a.c3
 have u:=a.c4
 have C:(cl !=cl)=false:=by simp
 have y:(sq !=sq)=false:=by simp
 have r:(kd !=kd)=false:=by simp
 have o:(id !=id)=false:=by simp
 have m:=Za (eqS ao bo ca cb p p W c.pv a.pv hn)
 rw [show decide (p=p)=true by simp] at m
 have n:=Za (Zb d f)
 have i:Hid _:=aw2Z b l
 clear d f hv hv' j c a b l h
 go_enter Tryz.func14,Tryz.ntmps14
 go_wp2_with fail
 rw [i.out]
 refine m.out.mono ?_
 rintro e A ⟨rfl,k,rfl⟩
 clear i
 go_wp2_with fail
 go_ret
 exact⟨rfl,below_drewN n.out k⟩
theorem Zfi{W:World}{base:Nat}{v:Value}(h:Value.okWide Tryz.prog W .any base 33 v):∃cs:Array Value,v=.agg cs/\cs.size=5:=by
 unfold Value.okWide at h
 rw [Tryz.underlying33] at h
 obtain⟨cs,rfl,a,_⟩:=h
 exact⟨cs,rfl,a.trans (by kernel_rfl)⟩
theorem ZlR{α :Type}{cs:Array α}(h:cs.size=5):∃c0 c1 c2 c3 c4,cs=#[c0,c1,c2,c3,c4]:=by
 obtain⟨l⟩:=cs
 match l,h with
 | [c0,c1,c2,c3,c4],_=>exact⟨c0,c1,c2,c3,c4,rfl⟩
theorem ZkB{H:Type}{P:Program}{w:World}{base:Nat}{spare:TypeId->Bool}{held:Bool}{enc:TypeId×Value->H}{t:TypeId}{f0 f1 f2 f3 f4:Field}{fuel:Nat}{cs:List Value}{x:DataW H×List MemPlace}(ht:P.underlying t=some (.struct #[f0,f1,f2,f3,f4]))(h:DataW.trod enc P w base spare held fuel t cs=some x):
 ∃y0 y1 y2 y3 y4 n,DataW.trod enc P w base spare held n f0.type ((cs.drop f0.offset).take (P.cellsOf f0.type))=some y0/\
  DataW.trod enc P w base spare held n f1.type ((cs.drop f1.offset).take (P.cellsOf f1.type))=some y1/\DataW.trod enc P w base spare held n f2.type ((cs.drop f2.offset).take (P.cellsOf f2.type))=some y2/\
  DataW.trod enc P w base spare held n f3.type ((cs.drop f3.offset).take (P.cellsOf f3.type))=some y3/\DataW.trod enc P w base spare held n f4.type ((cs.drop f4.offset).take (P.cellsOf f4.type))=some y4:=by
 obtain⟨c,n,_,rfl,d,b,a⟩:=DataW.trod_struct ht h
 match c,b with
 | [y0,y1,y2,y3,y4],_=>exact⟨y0,y1,y2,y3,y4,n,by simpa using a 0 f0 rfl,by simpa using a 1 f1 rfl,by simpa using a 2 f2 rfl,by simpa using a 3 f3 rfl,by simpa using a 4 f4 rfl⟩
theorem ZgY{H:Type}{enc:TypeId×Value->H}{W:World}{n:Nat}{cs:Array Value}{x:DataW H×List MemPlace}(hs:cs.size=5)(h:DataW.trod enc Tryz.prog W 0 (fun _=>true) true n 33 cs.toList=some x):
 ∃(cl sq kd id:Int) (p:List Int) (a:Option Addr) (c:Nat),cs=#[.int .i64 cl,.int .i64 sq,.int .i64 kd,.int .i64 id,.slice a p.length c]/\Zy W a p/\p.length<=maxLen:=by
 obtain⟨u0,u1,u2,u3,u4,rfl⟩:=ZlR hs
 obtain⟨C,E,D,B,F,m,l,g,k,i,j⟩:=ZkB Tryz.underlying33 h
 have A:Tryz.prog.cellsOf 2=1:=by kernel_rfl
 have o:Tryz.prog.cellsOf 31=1:=by kernel_rfl
 simp only [A,o] at l g k i j
 obtain⟨z,f,_,_⟩:=DataW.trod_int Tryz.underlying2 (by simpa using l)
 obtain⟨q,b,_,_⟩:=DataW.trod_int Tryz.underlying2 (by simpa using g)
 obtain⟨w,d,_,_⟩:=DataW.trod_int Tryz.underlying2 (by simpa using k)
 obtain⟨r,e,_,_⟩:=DataW.trod_int Tryz.underlying2 (by simpa using i)
 simp at f b d e
 obtain⟨s,a,c,u,t,y⟩:=Zfp (v:=u4) (by simpa using j)
 exact⟨z,q,w,r,s,a,c,by rw [f,b,d,e,u],t,y⟩
end Go.Proofs.YtilkaeclgmcolaaGreat
