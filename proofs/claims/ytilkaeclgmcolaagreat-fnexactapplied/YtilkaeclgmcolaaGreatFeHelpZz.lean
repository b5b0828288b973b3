import Derived.Test.YtilkaeclgmcolaaGreatFeSpecZz
import Derived.Test.YtilkaeclgmcolaaGreatJRwZz
import Derived.Test.YtilkaeclgmcolaaGreatMMarkZz
import Derived.Test.YtilkaeclgmcolaaGreatFeIsZz
import Derived.Test.YtilkaeclgmcolaaGreatFeBmZz
import Derived.Test.YtilkaeclgmcolaaGreatLastZz
import Derived.Test.YtilkaeclgmcolaaGreatBMarkZz
import Derived.Test.YtilkaeclgmcolaaGreatFeWalkZz
import Derived.Test.YtilkaeclgmcolaaGreatFePutZz
import Derived.Test.YtilkaeclgmcolaaGreatMathZz
set_option maxRecDepth 100000
set_option maxHeartbeats 8000000
namespace Go.Proofs.YtilkaeclgmcolaaGreat
open Go Go.RowKit
theorem ZaQ.far{w w':World}{b k n:Nat}{ms:List Mk}(h:ZaQ w b k n ms)(hs:w.heap.size<=w'.heap.size)(e:∀i,b<=i->i<w.heap.size->w'.heap[i]? =w.heap[i]?):ZaQ w' b k n ms:=by
 obtain⟨f,q,s,r⟩:=h
 have a:=e b (Nat.le_refl _) f
 refine⟨by omega,fun i m=>?_,fun j t p=>?_,fun j=>?_⟩
 · obtain⟨c0,g,l,c1,o⟩:=q i m
   exact⟨(World.cell?_of_block a).trans c0,g,l,(World.cell?_of_block a).trans c1,(e g (by omega) o.lt).trans o⟩
 · obtain⟨v,d,c⟩:=s j t p
   exact⟨v,(World.cell?_of_block a).trans d,(World.frozen?_of_block a).trans c⟩
 · exact (World.frozen?_of_block a).trans (r j)
theorem Zbc.far{w w':World}{b k n:Nat}{ls:List (List Int)}(h:Zbc w b k n ls)(hs:w.heap.size<=w'.heap.size)(e:∀i,b<=i->i<w.heap.size->w'.heap[i]? =w.heap[i]?):Zbc w' b k n ls:=by
 obtain⟨f,p,r,q⟩:=h
 have a:=e b (Nat.le_refl _) f
 refine⟨by omega,fun i c=>?_,fun j s m=>?_,fun j=>?_⟩
 · obtain⟨g,l,c1,o⟩:=p i c
   exact⟨g,l,(World.cell?_of_block a).trans c1,(e g (by omega) o.lt).trans o⟩
 · obtain⟨v,d⟩:=r j s m
   exact⟨v,(World.cell?_of_block a).trans d⟩
 · exact (World.frozen?_of_block a).trans (q j)
theorem Zbk.far{w w':World}{b hi:Nat}{ms:List Mk}(h:Zbk w b hi ms)(hs:w.heap.size<=w'.heap.size)(e:∀i,b<=i->i<hi->i<w.heap.size->w'.heap[i]? =w.heap[i]?):Zbk w' b hi ms:=by
 obtain⟨k,f,q,p⟩:=h
 have c:=e b (Nat.le_refl _) f k
 refine⟨by omega,f,fun j=>(World.frozen?_of_block c).trans (q j),fun j l=>?_⟩
 obtain⟨⟨v,c0⟩,g,m,d,a,c1,n,o⟩:=p j l
 exact⟨⟨v,(World.cell?_of_block c).trans c0⟩,g,m,d,a,(World.cell?_of_block c).trans c1,n,(e g (by omega) a o.lt).trans o⟩
theorem Zdy.far{w w':World}{b hi:Nat}{ls:List (List Int)}(h:Zdy w b hi ls)(hs:w.heap.size<=w'.heap.size)(e:∀i,b<=i->i<hi->i<w.heap.size->w'.heap[i]? =w.heap[i]?):Zdy w' b hi ls:=by
 obtain⟨k,d,p⟩:=h
 have f:=e b (Nat.le_refl _) d k
 refine⟨by omega,d,fun j l=>?_⟩
 obtain⟨g,m,c,a,c1,n,o⟩:=p j l
 exact⟨g,m,c,a,(World.cell?_of_block f).trans c1,n,(e g (by omega) a o.lt).trans o⟩
structure Zct(lo hi:Nat)(w:World)(bm bl:Nat)(ms:List Mk)(ls:List (List Int)):Prop where
 lo:lo<=bm
 mv:Zo w (some ⟨bm,0,none⟩) ms
 cv:ZS w (some ⟨bl,0,none⟩) ls
 mo:Zbk w bm bl ms
 co:Zdy w bl hi ls
 lt:bm<bl
 hi:hi<=w.heap.size
theorem Zct.next{lo hi:Nat}{w w':World}{bm bl:Nat}{ms:List Mk}{ls:List (List Int)}(h:Zct lo hi w bm bl ms ls)(L:Below w.heap.size w w'):Zct lo hi w' bm bl ms ls:=
 ⟨h.lo,h.mv.next L,h.cv.next L,h.mo.far L.size (fun i _ _ h3=>L.block i h3),h.co.far L.size (fun i _ _ h3=>L.block i h3),h.lt,Nat.le_trans h.hi L.size⟩
theorem eqW(a1 a2 b1 b2:Option Addr)(c1 c2 d1 d2:Nat)(ms:List Mk)(ls:List (List Int))(w:World)(h1:Zo w a1 ms)(h2:ZS w a2 ls)(h3:Zo w b1 ms)(h4:ZS w b2 ls)(hsm:ZL ms)(hcs:Z7 ls):
 Calls Tryz.prog 174 #[.agg #[.slice a1 ms.length c1,.slice a2 ls.length c2],.agg #[.slice b1 ms.length d1,.slice b2 ls.length d2]] w fun e w'=>e=.returned (.bool true)/\Below w.heap.size w w':=by
 obtain⟨W,a⟩:∃W,(w.alloc (.cells #[.slice a1 ms.length c1,.slice a2 ls.length c2] 158)).alloc (.cells #[.slice b1 ms.length d1,.slice b2 ls.length d2] 158)=W:=⟨_,rfl⟩
 have b:Below w.heap.size w W:=by rw [<-a];exact ((Below.refl w.heap.size w).alloc (Nat.le_refl _) _).alloc (by simp) _
 have k:W.heap.size=w.heap.size+2:=by rw [<-a];simp
 have m:W.cell? ⟨w.heap.size,0,none⟩=some (.slice a1 ms.length c1):=by rw [<-a];simp
 have n:W.cell? ⟨w.heap.size+1,0,none⟩=some (.slice b1 ms.length d1):=by rw [<-a];simp
 have g:W.cell? ⟨w.heap.size,1,none⟩=some (.slice a2 ls.length c2):=by rw [<-a];simp
 have i:W.cell? ⟨w.heap.size+1,1,none⟩=some (.slice b2 ls.length d2):=by rw [<-a];simp
 have h:=Za (eqMS a1 b1 c1 d1 ms ms W (h1.next b) (h3.next b) hsm)
 rw [show decide (ms=ms)=true by simp] at h
 have d:=Za (fun (j:World) (L:Below W.heap.size W j)=>eqCS a2 b2 c2 d2 ls j (h2.next (Zb b L)) (h4.next (Zb b L)) hcs)
 have r:=Za b
 clear b h1 h2 h3 h4
 go_enter Tryz.func174,Tryz.ntmps174
 go_wp2_with fail
 refine h.out.mono ?_
 rintro e o ⟨rfl,c⟩
 have s:=(c.cell (p:=⟨w.heap.size,1,none⟩) (by show w.heap.size<_;omega)).trans g
 have u:=(c.cell (p:=⟨w.heap.size+1,1,none⟩) (by show w.heap.size+1<_;omega)).trans i
 have l:=Za (d.out o c)
 have f:=Za (Zb r.out c)
 clear a m g n i c
 go_wp2_with fail
 refine l.out.mono ?_
 rintro e t ⟨rfl,q,rfl⟩
 go_wp2_with fail
 go_ret
 exact⟨rfl,below_drewN f.out q⟩
theorem ZV{w:World}{q:Nat}{u v:Value}{t:TypeId}(h:w.heap[q]? =some (.cells #[u,v] t)):w.cell? ⟨q,0,none⟩=some u/\w.cell? ⟨q,1,none⟩=some v/\(∀j,w.frozen? ⟨q,j,none⟩=false)/\q<w.heap.size:=by
 refine⟨by simp [World.cell?,h],by simp [World.cell?,h],fun j=>by simp [World.frozen?,h],?_⟩
 rcases Nat.lt_or_ge q w.heap.size with e | e
 · exact e
 · rw [Array.getElem?_eq_none e] at h;cases h
theorem Zg0{w:World}{q:Nat}{u v x:Value}{t:TypeId}(h:w.heap[q]? =some (.cells #[u,v] t)):(w.setCell ⟨q,0,none⟩ x).heap[q]? =some (.cells #[x,v] t)/\(w.setCell ⟨q,1,none⟩ x).heap[q]? =some (.cells #[u,x] t):=by
 constructor <;> simp [World.setCell,Array.getElem?_modify,h]
theorem toW(a1 a2:Option Addr)(c1 c2:Nat)(ms:List Mk)(ls:List (List Int))(w:World)(h1:Zo w a1 ms)(h2:ZS w a2 ls)(hsm:ZL ms)(hcs:Z7 ls):
 Calls Tryz.prog 165 #[.agg #[.slice a1 ms.length c1,.slice a2 ls.length c2]] w fun e w'=>∃bm bl,e=.returned (.agg #[.slice (some ⟨bm,0,none⟩) ms.length ms.length,.slice (some ⟨bl,0,none⟩) ls.length ls.length])/\Zct w.heap.size w'.heap.size w' bm bl ms ls/\Below w.heap.size w w':=by
 obtain⟨r,m⟩:∃W,w.alloc (.cells #[.slice a1 ms.length c1,.slice a2 ls.length c2] 193)=W:=⟨_,rfl⟩
 obtain⟨q,f⟩:∃W,r.alloc (.cells #[.slice none 0 0,.slice none 0 0] 158)=W:=⟨_,rfl⟩
 obtain⟨W,L⟩:∃W,q.alloc (.cells #[.slice none 0 0,.slice none 0 0] 158)=W:=⟨_,rfl⟩
 have s1:=salZ m
 have s2:q.heap.size=w.heap.size+1+1:=by rw [<-f];simp [s1]
 have aB:W.heap.size=w.heap.size+1+1+1:=by rw [<-L];simp [s2]
 have b1:=balZ m
 have O:=balZ f
 have J:=balZ L
 have P:Below w.heap.size w W:=Zb (Zb b1 O) J
 have u:W.heap[w.heap.size]? =some (.cells #[.slice a1 ms.length c1,.slice a2 ls.length c2] 193):=(J.block _ (by omega)).trans ((O.block _ (by omega)).trans (by rw [<-m];exact heap_alloc_new w _))
 have z:W.heap[w.heap.size+1]? =some (.cells #[.slice none 0 0,.slice none 0 0] 158):=(J.block _ (by omega)).trans (by rw [<-f,<-s1];exact heap_alloc_new r _)
 have C:=nal2Z L s2
 obtain⟨z0,z1,-,-⟩:=ZV u
 have HS:=Za (toMS a1 c1 ms W (h1.next P) hsm)
 have HV:=Za h2
 have HB:=Za P
 have HT:=Za (And.intro u (And.intro z C))
 clear P h1 h2 b1 O J u z C
 go_enter Tryz.func165,Tryz.ntmps165
 go_wp2_with fail
 refine HS.out.mono ?_
 rintro e K ⟨bm,rfl,p1,E,s⟩
 obtain⟨u,z,C⟩:=HT.out
 have u0:=(s.block _ (by omega)).trans u
 have u1:=(s.block _ (by omega)).trans z
 have u2:=(s.block _ (by omega)).trans C
 obtain⟨e2,Y,f2,-⟩:=ZV u2
 have aA:=f2 0
 obtain⟨l,n⟩:∃l,K.setCell ⟨w.heap.size+1+1,0,none⟩ (.slice (some ⟨bm,0,none⟩) ms.length ms.length)=l:=⟨_,rfl⟩
 have a:∀i,i≠w.heap.size+1+1->l.heap[i]? =K.heap[i]? :=fun i H=>by rw [<-n];exact Below.heap_setCell K ⟨w.heap.size+1+1,0,none⟩ _ i (fun e=>H e)
 have z3:l.heap.size=K.heap.size:=by rw [<-n];simp [World.setCell]
 have v0:=(a w.heap.size (by omega)).trans u0
 have A:=(a (w.heap.size+1) (by omega)).trans u1
 have I:l.heap[w.heap.size+1+1]? =some (.cells #[.slice (some ⟨bm,0,none⟩) ms.length ms.length,.slice none 0 0] 158):=by rw [<-n];exact (Zg0 u2).1
 have o:ZaQ l bm ms.length ms.length ms:=p1.far (by omega) (fun i h1 _=>a i (by omega))
 have t:Below w.heap.size w l:=by rw [<-n];exact (Zb HB.out s).setCell (by show w.heap.size<=w.heap.size+1+1;omega) _
 have c3:=(ZV v0).2.1
 have ai:=s.size
 have B:=Za (toCS a2 c2 ls l (HV.out.next t) hcs)
 have H3:=Za (And.intro A (And.intro I (And.intro o t)))
 have R:Hid (w.heap.size+1+1+1<=bm):=by show _<=bm;omega
 clear HT u z C u0 u1 u2 v0 A I p1 o s t a E f2 HS m f L z0 z1 Y
 go_wp2_with fail
 refine B.out.mono ?_
 rintro e x ⟨bl,rfl,M,aw,p⟩
 obtain⟨A,I,o,t⟩:=H3.out
 have aq:=o.1
 have x1:=(p.block _ (by omega)).trans A
 have x2:=(p.block _ (by omega)).trans I
 have D:=p.size
 obtain⟨g1,Z,N,-⟩:=ZV x1
 obtain⟨g2,aE,k2,-⟩:=ZV x2
 have aC:=N 0
 have av:=N 1
 have ak:=k2 1
 have p4:ZaQ x bm ms.length ms.length ms:=o.far D (fun i _ h=>p.block i h)
 have F:Zbk x bm bl ms:=by
  obtain⟨m1,m2,m3,V⟩:=o.over
  have m5:Zbk l bm bl ms:=⟨m1,by omega,m3,fun j hj=>by
   obtain⟨Q,g,xs,X,S,U⟩:=V j hj
   exact⟨Q,g,xs,X,by omega,U⟩⟩
  exact m5.far D (fun i _ _ h=>p.block i h)
 have HF:=Za (And.intro p4.view (And.intro F (And.intro M (Zb t p))))
 have T:Hid (bl<x.heap.size/\bm<bl):=⟨M.1,by omega⟩
 clear A I o t x1 x2 N k2 p4 F M p H3 B
 go_wp2_with fail
 refine bodyPost_ret (v:=.agg #[.slice (some ⟨bm,0,none⟩) ms.length ms.length,.slice (some ⟨bl,0,none⟩) ls.length ls.length]) (by simp [results,Tryz.results165,go_sem,g1,Z]) rfl ?_
 obtain⟨y,d⟩:∃y,((x.setCell ⟨w.heap.size+1+1,1,none⟩ (.slice (some ⟨bl,0,none⟩) ls.length ls.length)).setCell ⟨w.heap.size+1,0,none⟩ (.slice (some ⟨bm,0,none⟩) ms.length ms.length)).setCell ⟨w.heap.size+1,1,none⟩ (.slice (some ⟨bl,0,none⟩) ls.length ls.length)=y:=⟨_,rfl⟩
 obtain⟨X,S,U,q4⟩:=HF.out
 have E:=R.out
 have G:=T.out
 have c:∀i,bm<=i->y.heap[i]? =x.heap[i]? :=fun i H=>by
  rw [<-d,Below.heap_setCell _ ⟨w.heap.size+1,1,none⟩ _ i (fun e=>by have:i=w.heap.size+1:=e;omega),Below.heap_setCell _ ⟨w.heap.size+1,0,none⟩ _ i (fun e=>by have:i=w.heap.size+1:=e;omega),Below.heap_setCell _ ⟨w.heap.size+1+1,1,none⟩ _ i (fun e=>by have:i=w.heap.size+1+1:=e;omega)]
 have z5:y.heap.size=x.heap.size:=by rw [<-d];simp [World.setCell]
 have L5:Below w.heap.size w y:=by rw [<-d];exact ((q4.setCell (by show w.heap.size<=w.heap.size+1+1;omega) _).setCell (by show w.heap.size<=w.heap.size+1;omega) _).setCell (by show w.heap.size<=w.heap.size+1;omega) _
 have c5:Zbc y bl ls.length ls.length ls:=U.far (by omega) (fun i h1 _=>c i (by omega))
 rw [d]
 refine⟨bm,bl,rfl,⟨by omega,?_,c5.view,S.far (by omega) (fun i h1 _ _=>c i h1),c5.over,G.2,Nat.le_refl _⟩,L5⟩
 rcases X with h | ⟨b,off,e,hb,hs⟩
 · exact Or.inl h
 · injection e with e
   injection e with e1 e2
   subst e1 e2
   refine Or.inr ⟨bm,0,rfl,by omega,fun i H=>?_⟩
   obtain⟨c0,ao,cap,c1,Q⟩:=hs i H
   obtain⟨-,-,-,V⟩:=S
   obtain⟨-,g,xs,an,ah,cg,-,-⟩:=V i H
   have eb:=c bm (Nat.le_refl _)
   refine⟨(World.cell?_of_block eb).trans c0,ao,cap,(World.cell?_of_block eb).trans c1,?_⟩
   rw [show (0:Nat)+i*2+1=i*2+1 by omega,cg] at c1
   injection c1 with c1
   injection c1 with c1 c2' c3'
   rcases Q with h | ⟨b',off',e',hb',hs'⟩
   · exact Or.inl h
   · refine Or.inr ⟨b',off',e',by omega,fun k hk=>?_⟩
     have aK:b'=g:=by
      rw [e'] at c1
      injection c1 with c1
      injection c1 with c1
      exact c1.symm
     exact (World.cell?_of_block (c b' (by omega))).trans (hs' k hk)
def Z8:List Mk->Nat
 | []=>0
 | m::l=>1+m.2.length+Z8 l
def mkM:Int->List Mk->List Mk
 | _,[]=>[]
 | k,m::l=>(k,ZaE (fun i=>k+1+i) m.2.length)::mkM (k+1+m.2.length) l
theorem ZdG(k:Int)(ms:List Mk):(mkM k ms).length=ms.length:=by
 induction ms generalizing k with
 | nil=>rfl
 | cons m l ih=>simp [mkM,ih]
theorem Zl4(k:Int)(ms:List Mk)(j:Nat)(h:j<ms.length):ZJ (mkM k ms) j=(k+Z8 (ms.take j),ZaE (fun i=>k+Z8 (ms.take j)+1+i) (ZJ ms j).2.length):=by
 induction ms generalizing k j with
 | nil=>simp at h
 | cons m l ih=>
   cases j with
   | zero=>simp [mkM,ZJ,Z8]
   | succ j=>
     have a:j<l.length:=by simpa using h
     have e:=ih (k+1+m.2.length) j a
     show ZJ (mkM (k+1+m.2.length) l) j=_
     rw [e]
     have b:k+1+(m.2.length:Int)+(Z8 (l.take j):Int)=k+(Z8 ((m::l).take (j+1)):Int):=by
      simp only [List.take_succ_cons,Z8];omega
     rw [b]
     rfl
theorem Zek(ms:List Mk)(j:Nat)(h:j<ms.length):Z8 (ms.take (j+1))=Z8 (ms.take j)+1+(ZJ ms j).2.length:=by
 induction ms generalizing j with
 | nil=>simp at h
 | cons m l ih=>
   cases j with
   | zero=>simp [Z8,ZJ]
   | succ j=>
     have a:j<l.length:=by simpa using h
     have e:=ih j a
     simp only [List.take_succ_cons,Z8]
     rw [e]
     show _=_+(ZJ l j).2.length
     omega
theorem ZcJ(ms:List Mk)(n m:Nat)(h1:ms.length<=n)(h:∀x∈ms,x.2.length<=m):Z8 ms<=n*(m+1):=by
 induction ms generalizing n with
 | nil=>simp [Z8]
 | cons a l ih=>
   cases n with
   | zero=>simp at h1
   | succ n=>
     have e:=ih n (by simpa using h1) (fun x b=>h x (List.mem_cons_of_mem _ b))
     have d:=h a (List.mem_cons_self)
     simp only [Z8]
     have c:(n+1)*(m+1)=n*(m+1)+(m+1):=Nat.succ_mul n (m+1)
     omega
theorem Zo3(ao:Option Addr)(cap:Nat)(ms:List Mk)(k0:Int)(w:World)(hv:Zo w ao (mkM k0 ms))(hn:ms.length<=60)(hat:∀x∈ms,x.2.length<=4)(h0:1<=k0)(h1:k0<=1000000):
 Calls Tryz.prog 95 #[.slice ao ms.length cap,.int .i64 k0] w fun e w'=>e=.returned (.int .i64 (k0+Z8 ms))/\w'=w:=by
 have y:=Za hv
 have d:=Za hat
 clear hv hat
 go_enter Tryz.func95,Tryz.ntmps95
 go_wp2_with fail
 go_loop [1,5] (fun q i=>∃j:Nat,j<=ms.length/\i=.int .i64 j/\q=.int .i64 (k0+Z8 (ms.take j))) (fun _ i=>ms.length-(intOf i).toNat)
 case atStart=>exact⟨0,Nat.zero_le _,rfl,by simp [Z8]⟩
 case round=>
  obtain⟨j,A,rfl,rfl⟩:=hrel
  by_cases hlt:j<ms.length
  · obtain⟨b,s,rfl,C,l⟩:=Zel y.out (by rw [ZdG];omega)
    have g:=l j (by rw [ZdG];exact hlt)
    rw [Zl4 k0 ms j hlt] at g
    obtain⟨c0,a,c,c1,h⟩:=g
    simp only [ZE] at c1
    have n:(ZJ ms j).2.length<=4:=by
     have:ZJ ms j=ms[j]:=by simp [ZJ,List.getD,hlt]
     rw [this];exact d.out _ (List.getElem_mem hlt)
    have o:=ZcJ (ms.take j) 60 4 (by simp;omega) (fun x u=>d.out x (List.mem_of_mem_take u))
    have f:=Za (Zek ms j hlt)
    have t:=Za (ZoH a c (ZJ ms j).2.length (k0+Z8 (ms.take j)+1) w h (by omega) (by omega) (by omega))
    have v:=n0Z j
    have p:(j:Int)<(ms.length:Int):=by omega
    clear h l
    generalize (ZJ ms j).2.length=m at *
    have k:¬(k0+(Z8 (ms.take j):Int)+1+(m:Int)<0):=by omega
    generalize hT:Z8 (ms.take j)=T at *
    have r:((k0+(T:Int)) !=(k0+(T:Int)))=false:=by simp
    have z:=Za hT
    clear hT
    go_wp2_with fail
    refine t.out.mono ?_
    rintro e B ⟨rfl,rfl⟩
    go_wp2_with fail
    go_round
    case rel=>exact⟨j+1,by omega,by go_num,by rw [f.out];congr 1;omega⟩
    case measure=>simp [intOf];omega
  · obtain rfl:j=ms.length:=by omega
    go_wp2_with fail
    go_ret
    exact⟨rfl,rfl⟩
abbrev Wb:=List Mk×List (List Int)
def Zi(ts:List Wb)(i:Nat):Wb:=ts.getD i ([],[])
def WbAt(s:Bool)(w:World)(b off:Nat)(t:Wb):Prop:=∃am cm al cl,w.cell? ⟨b,off,none⟩=some (.slice am t.1.length cm)/\w.cell? ⟨b,off+1,none⟩=some (.slice al t.2.length cl)/\Zo w am t.1/\ZS w al t.2/\(s=true->t.1.length<=cm/\t.2.length<=cl)
def Zc2(s:Bool)(w:World)(b off:Nat)(ts:List Wb):Prop:=∀i,i<ts.length->WbAt s w b (off+i*2) (Zi ts i)
def Zp(s:Bool)(w:World)(ao:Option Addr)(ts:List Wb):Prop:=ts=[]\/∃b off,ao=some ⟨b,off,none⟩/\b<w.heap.size/\Zc2 s w b off ts
def Z1(ts:List Wb):Prop:=ts.length<=1048576/\∀i,ZL (Zi ts i).1/\Z7 (Zi ts i).2
theorem WbAt.next{s:Bool}{w w':World}{b off:Nat}{t:Wb}(h:WbAt s w b off t)(hb:b<w.heap.size)(L:Below w.heap.size w w'):WbAt s w' b off t:=by
 obtain⟨k,a,f,d,c,g,j,i,e⟩:=h
 exact⟨k,a,f,d,(L.cell (p:=⟨b,off,none⟩) hb).trans c,(L.cell (p:=⟨b,off+1,none⟩) hb).trans g,j.next L,i.next L,e⟩
theorem Zc2.next{s:Bool}{w w':World}{b off:Nat}{ts:List Wb}(h:Zc2 s w b off ts)(hb:b<w.heap.size)(L:Below w.heap.size w w'):Zc2 s w' b off ts:=fun i hi=>(h i hi).next hb L
theorem Zp.next{s:Bool}{w w':World}{ao:Option Addr}{ts:List Wb}(h:Zp s w ao ts)(L:Below w.heap.size w w'):Zp s w' ao ts:=by
 rcases h with h | ⟨b,off,e,hb,hs⟩
 · exact Or.inl h
 · exact Or.inr ⟨b,off,e,Nat.lt_of_lt_of_le hb L.size,hs.next hb L⟩
theorem Zp.seg{s:Bool}{w:World}{ao:Option Addr}{ts:List Wb}(h:Zp s w ao ts)(h0:0<ts.length):∃b off,ao=some ⟨b,off,none⟩/\b<w.heap.size/\Zc2 s w b off ts:=by
 rcases h with h | h
 · subst h;simp at h0
 · exact h
def tot(f:Nat->Nat):Nat->Nat
 | 0=>0
 | k+1=>tot f k+f k
def Zb1(ms:List Mk):Nat:=ms.length+tot (fun j=>(mat ms j).length) ms.length
def ZeT(ls:List (List Int)):Nat:=ls.length+tot (fun j=>(cn ls j).length) ls.length
def ZcK(t:Wb):Nat:=Zb1 t.1+ZeT t.2
def ZeU(ts:List Wb):Nat:=ts.length+tot (fun j=>ZcK (Zi ts j)) ts.length
theorem ZhN{left:Int}{n:Nat}(h:¬Zbu left n<0):Zbu left n=left-n:=by
 unfold Zbu at h ⊢
 split at h
 · exact absurd (show (-1:Int)<0 by decide) h
 · rename_i hc;rw [if_neg hc]
theorem ZkF(ao:Option Addr)(n cap:Nat)(left:Int)(w:World)(hn:n<=maxLen)(h0:0<=left)(h:left<n):
 Calls Tryz.prog 76 #[.slice ao n cap,.int .i64 left] w fun e w'=>e=.returned (.int .i64 (-1))/\w'=w:=by
 unfold maxLen at hn
 have a:left-n<0:=by omega
 go_enter Tryz.func76,Tryz.ntmps76
 go_wp2
 go_ret
 exact⟨rfl,rfl⟩
theorem Zl5(ao:Option Addr)(cap:Nat)(left:Int)(w:World)(h0:0<=left)(h1:left<=1048576):
 Calls Tryz.prog 76 #[.slice ao 0 cap,.int .i64 left] w fun e w'=>e=.returned (.int .i64 left)/\w'=w:=by
 have a:¬left<0:=by omega
 go_enter Tryz.func76,Tryz.ntmps76
 go_wp2
 refine wp_loop_rounds 1 ?_
 rw [rounds_succ]
 go_wp2
 go_ret
 exact⟨rfl,rfl⟩
theorem Zl6(b off cap:Nat)(ms:List Mk)(left0:Int)(w:World)(hs:ZaV w b off ms)(hb:b<w.heap.size)(hn:(ms.length:Int)<=left0)(hl0:left0<=1048576)(hat:∀i,(mat ms i).length<=maxLen):
 Calls Tryz.prog 76 #[.slice (some ⟨b,off,none⟩) ms.length cap,.int .i64 left0] w fun e w'=>∃r,e=.returned (.int .i64 r)/\r<=left0/\(r<0\/(ZL ms/\(Zb1 ms:Int)+r=left0))/\Below w.heap.size w w':=by
 have E:¬left0-ms.length<0:=by omega
 go_enter Tryz.func76,Tryz.ntmps76
 go_wp2
 go_loopw [1,5] (fun l i wr=>∃(k:Nat) (left:Int),k<=ms.length/\i=.int .i64 k/\l=.int .i64 left/\0<=left/\left+(tot (fun j=>(mat ms j).length) k:Nat)=left0-ms.length/\(∀j,j<k->(mat ms j).length<=1048576)/\Below w.heap.size w wr) (fun _ i _=>ms.length-(intOf i).toNat)
 case atStart=>exact⟨0,left0-ms.length,Nat.zero_le _,rfl,rfl,by omega,by simp [tot],fun j v=>by omega,Below.refl _ _⟩
 case round=>
  obtain⟨k,left,F,rfl,rfl,A,c,a,L⟩:=hrel
  have o:=Za c
  have m:left<=1048576:=by omega
  have f:left<=left0:=by omega
  clear c
  have s:=Za a
  clear a
  by_cases hlt:k<ms.length
  · obtain⟨u,z,d,t,y⟩:=(hs.below hb (Nat.le_refl _) L).at hlt
    have hcut:=ZdZ (mat ms k).length (by omega) m
    have B:=Za (fun h=>ZcH (n:=(mat ms k).length) m h)
    have C:=Za (fun h=>ZhN (left:=left) (n:=(mat ms k).length) h)
    have g:Hid (tot (fun j=>(mat ms j).length) (k+1)=tot (fun j=>(mat ms j).length) k+(mat ms k).length):=rfl
    have p:=L.size
    clear y
    go_wp2_with fail
    refine (szM (ZJ ms k) z d left _ (hat k) A m).mono ?_
    rintro e D ⟨rfl,q⟩
    rw [<-Zg1] at *
    by_cases hneg:Zbu left (mat ms k).length<0
    · go_wp2_with fail
      go_ret
      exact⟨_,rfl,by omega,Or.inl (by omega),L.trans (q.mono p)⟩
    · have x:=Za (C.out (by omega))
      go_wp2_with fail
      go_roundw
      case rel=>exact⟨k+1,Zbu left (mat ms k).length,by omega,by go_num,rfl,by omega,by have:=x.out;have:=o.out;have:=g.out;omega,fun j v=>by
       rcases Nat.lt_or_ge j k with h | h
       · exact s.out j h
       · rw [show j=k by omega];exact B.out (by omega),L.trans (q.mono p)⟩
      case measure=>simp [intOf];omega
  · go_wp2
    go_ret
    obtain rfl:k=ms.length:=by omega
    refine⟨_,rfl,f,Or.inr ⟨⟨by omega,fun i=>?_⟩,by have:=o.out;unfold Zb1;omega⟩,L⟩
    rcases Nat.lt_or_ge i ms.length with h | h
    · exact s.out i h
    · simp [mat,List.getD,h]
theorem szMg(ao:Option Addr)(cap:Nat)(ms:List Mk)(left0:Int)(w:World)(hv:Zo w ao ms)(h0:0<=left0)(hl0:left0<=1048576)(hn:ms.length<=maxLen)(hat:∀i,(mat ms i).length<=maxLen):
 Calls Tryz.prog 76 #[.slice ao ms.length cap,.int .i64 left0] w fun e w'=>∃r,e=.returned (.int .i64 r)/\r<=left0/\(r<0\/(ZL ms/\(Zb1 ms:Int)+r=left0))/\Below w.heap.size w w':=by
 rcases Int.lt_or_le left0 ms.length with h | h
 · refine (ZkF ao ms.length cap left0 w hn h0 h).mono ?_
   rintro e w' ⟨rfl,rfl⟩
   exact⟨_,rfl,by omega,Or.inl (by omega),Below.refl _ _⟩
 · rcases hv with rfl | ⟨b,off,rfl,hb,hs⟩
   · refine (Zl5 ao cap left0 w h0 hl0).mono ?_
     rintro e w' ⟨rfl,rfl⟩
     exact⟨_,rfl,by omega,Or.inr ⟨⟨by simp,fun i=>by simp [mat]⟩,by simp [Zb1,tot]⟩,Below.refl _ _⟩
   · exact Zl6 b off cap ms left0 w hs hb h hl0 hat
theorem Zl7(b off cap:Nat)(ls:List (List Int))(left0:Int)(w:World)(hs:Zi5 w b off ls)(hn:(ls.length:Int)<=left0)(hl0:left0<=1048576)(hat:∀i,(cn ls i).length<=maxLen):
 Calls Tryz.prog 186 #[.slice (some ⟨b,off,none⟩) ls.length cap,.int .i64 left0] w fun e w'=>∃r,e=.returned (.int .i64 r)/\r<=left0/\(r<0\/(Z7 ls/\(ZeT ls:Int)+r=left0))/\w'=w:=by
 have B:¬left0-ls.length<0:=by omega
 go_enter Tryz.func186,Tryz.ntmps186
 go_wp2
 go_loop [1,5] (fun l i=>∃(k:Nat) (left:Int),k<=ls.length/\i=.int .i64 k/\l=.int .i64 left/\0<=left/\left+(tot (fun j=>(cn ls j).length) k:Nat)=left0-ls.length/\(∀j,j<k->(cn ls j).length<=1048576)) (fun _ i=>ls.length-(intOf i).toNat)
 case atStart=>exact⟨0,left0-ls.length,Nat.zero_le _,rfl,rfl,by omega,by simp [tot],fun j s=>by omega⟩
 case round=>
  obtain⟨k,left,C,rfl,rfl,x,c,a⟩:=hrel
  have o:=Za c
  have m:left<=1048576:=by omega
  have f:left<=left0:=by omega
  clear c
  have p:=Za a
  clear a
  by_cases hlt:k<ls.length
  · obtain⟨v,d,q,u⟩:=hs k hlt
    have hcut:=ZdZ (cn ls k).length (by omega) m
    have y:=Za (fun h=>ZcH (n:=(cn ls k).length) m h)
    have z:=Za (fun h=>ZhN (left:=left) (n:=(cn ls k).length) h)
    have g:Hid (tot (fun j=>(cn ls j).length) (k+1)=tot (fun j=>(cn ls j).length) k+(cn ls k).length):=rfl
    clear u
    go_wp2_with fail
    refine (szS v (cn ls k).length d left _ (hat k) x m).mono ?_
    rintro e A ⟨rfl,rfl⟩
    by_cases hneg:Zbu left (cn ls k).length<0
    · go_wp2_with fail
      go_ret
      exact⟨_,rfl,by omega,Or.inl (by omega),rfl⟩
    · have t:=Za (z.out (by omega))
      go_wp2_with fail
      go_round
      case rel=>exact⟨k+1,Zbu left (cn ls k).length,by omega,by go_num,rfl,by omega,by have:=t.out;have:=o.out;have:=g.out;omega,fun j s=>by
       rcases Nat.lt_or_ge j k with h | h
       · exact p.out j h
       · rw [show j=k by omega];exact y.out (by omega)⟩
      case measure=>simp [intOf];omega
  · go_wp2
    go_ret
    obtain rfl:k=ls.length:=by omega
    refine⟨_,rfl,f,Or.inr ⟨⟨by omega,fun i=>?_⟩,by have:=o.out;unfold ZeT;omega⟩,rfl⟩
    rcases Nat.lt_or_ge i ls.length with h | h
    · exact p.out i h
    · simp [cn,List.getD,h]
theorem szCg(ao:Option Addr)(cap:Nat)(ls:List (List Int))(left0:Int)(w:World)(hv:ZS w ao ls)(h0:0<=left0)(hl0:left0<=1048576)(hn:ls.length<=maxLen)(hat:∀i,(cn ls i).length<=maxLen):
 Calls Tryz.prog 186 #[.slice ao ls.length cap,.int .i64 left0] w fun e w'=>∃r,e=.returned (.int .i64 r)/\r<=left0/\(r<0\/(Z7 ls/\(ZeT ls:Int)+r=left0))/\w'=w:=by
 rcases Int.lt_or_le left0 ls.length with h | h
 · refine (ZkG ao ls.length cap left0 w hn h0 h).mono ?_
   rintro e w' ⟨rfl,rfl⟩
   exact⟨_,rfl,by omega,Or.inl (by omega),rfl⟩
 · rcases hv with rfl | ⟨b,off,rfl,hb,hs⟩
   · refine (Zl8 ao cap left0 w h0 hl0).mono ?_
     rintro e w' ⟨rfl,rfl⟩
     exact⟨_,rfl,by omega,Or.inr ⟨⟨by simp,fun i=>by simp [cn]⟩,by simp [ZeT,tot]⟩,rfl⟩
   · exact Zl7 b off cap ls left0 w hs h hl0 hat
theorem szWg(a1 a2:Option Addr)(c1 c2:Nat)(ms:List Mk)(ls:List (List Int))(left0:Int)(w:World)(h1:Zo w a1 ms)(h2:ZS w a2 ls)(h0:0<=left0)(hl0:left0<=1048576)(n1:ms.length<=maxLen)(t1:∀i,(mat ms i).length<=maxLen)(n2:ls.length<=maxLen)(t2:∀i,(cn ls i).length<=maxLen):
 Calls Tryz.prog 160 #[.agg #[.slice a1 ms.length c1,.slice a2 ls.length c2],.int .i64 left0] w fun e w'=>∃r,e=.returned (.int .i64 r)/\r<=left0/\(r<0\/(ZL ms/\Z7 ls/\(ZcK (ms,ls):Int)+r=left0))/\Below w.heap.size w w':=by
 obtain⟨W,n⟩:∃W,w.alloc (.cells #[.slice a1 ms.length c1,.slice a2 ls.length c2] 193)=W:=⟨_,rfl⟩
 have o:=balZ n
 have a:Zac W w.heap.size a1 c1 ms a2 c2 ls:=by rw [<-n];exact Zac.box h1 h2
 have s:=Za o
 have x:=Za a
 have B:=a.c0
 have y:=Za (szMg a1 c1 ms left0 W a.mv h0 hl0 n1 t1)
 have k:=Za (fun (W':World) (L:Below W.heap.size W W') (r:Int) (h0:0<=r) (h1:r<=1048576)=>szCg a2 c2 ls r W' (a.below L).cv h0 h1 n2 t2)
 clear h1 h2 o a t1 t2
 go_enter Tryz.func160,Tryz.ntmps160
 go_wp2_with fail
 refine y.out.mono ?_
 rintro e u ⟨r,rfl,z,p,g⟩
 by_cases hneg:r<0
 · go_wp2_with fail
   go_ret
   exact⟨-1,rfl,by omega,Or.inl (by omega),Zb s.out g⟩
 have b:ZL ms/\(Zb1 ms:Int)+r=left0:=by rcases p with h | h;exact absurd h hneg;exact h
 have d:=Za b
 have t:=(x.out.below g).c1
 have v:=Za (k.out u g r (by omega) (by omega))
 have c:=Za (Zb s.out g)
 clear p g n b
 go_wp2_with fail
 refine v.out.mono ?_
 rintro e A ⟨l,rfl,q,f,m⟩
 subst m
 by_cases hneg2:l<0
 · go_wp2_with fail
   go_ret
   exact⟨-1,rfl,by omega,Or.inl (by omega),c.out⟩
 have j:Hid (Z7 ls/\(ZeT ls:Int)+l=r):=by rcases f with h | h;exact absurd h hneg2;exact h
 clear f
 go_wp2_with fail
 go_ret
 exact⟨l,rfl,by omega,Or.inr ⟨d.out.1,j.out.1,by have:=d.out.2;have:=j.out.2;unfold ZcK;simp only;omega⟩,c.out⟩
theorem Tryz.info158:(Tryz.prog.info? 158).map (fun i=>(i.zero,i.size,i.bytes))=some (some (.agg #[.slice none 0 0,.slice none 0 0]),2,48):=by kernel_rfl
theorem Zct.far{lo hi:Nat}{w w':World}{bm bl:Nat}{ms:List Mk}{ls:List (List Int)}(h:Zct lo hi w bm bl ms ls)(hs:w.heap.size<=w'.heap.size)(far:∀i,lo<=i->i<hi->w'.heap[i]? =w.heap[i]?):Zct lo hi w' bm bl ms ls:=by
 have c:=h.lo
 have q:=h.lt
 have p:bl<hi:=h.co.2.1
 have x:=h.hi
 refine⟨c,?_,?_,h.mo.far hs (fun i u t _=>far i (by omega) (by omega)),h.co.far hs (fun i u t _=>far i (by omega) t),q,by omega⟩
 · rcases h.mv with e | ⟨b,off,e,hb,hsg⟩
   · exact Or.inl e
   · injection e with e
     injection e with e1 e2
     subst e1 e2
     refine Or.inr ⟨bm,0,rfl,by omega,fun i a=>?_⟩
     obtain⟨c0,o,cap,c1,f⟩:=hsg i a
     obtain⟨-,-,-,l⟩:=h.mo
     obtain⟨-,g,v,m,j,n,-,-⟩:=l i a
     have d:=far bm c (by omega)
     refine⟨(World.cell?_of_block d).trans c0,o,cap,(World.cell?_of_block d).trans c1,?_⟩
     rw [show (0:Nat)+i*2+1=i*2+1 by omega,n] at c1
     injection c1 with c1
     injection c1 with c1 c2' c3'
     rcases f with e | ⟨b',off',e',hb',hs'⟩
     · exact Or.inl e
     · refine Or.inr ⟨b',off',e',by omega,fun k r=>?_⟩
       have s:b'=g:=by
        rw [e'] at c1
        injection c1 with c1
        injection c1 with c1
        exact c1.symm
       exact (World.cell?_of_block (far b' (by omega) (by omega))).trans (hs' k r)
 · rcases h.cv with e | ⟨b,off,e,hb,hsg⟩
   · exact Or.inl e
   · injection e with e
     injection e with e1 e2
     subst e1 e2
     refine Or.inr ⟨bl,0,rfl,by omega,fun i a=>?_⟩
     obtain⟨o,cap,c1,f⟩:=hsg i a
     obtain⟨-,-,l⟩:=h.co
     obtain⟨g,v,m,j,n,-,-⟩:=l i a
     have d:=far bl (by omega) p
     refine⟨o,cap,(World.cell?_of_block d).trans c1,?_⟩
     rw [show (0:Nat)+i=i by omega,n] at c1
     injection c1 with c1
     injection c1 with c1 c2' c3'
     rcases f with e | ⟨b',off',e',hb',hs'⟩
     · exact Or.inl e
     · refine Or.inr ⟨b',off',e',by omega,fun k r=>?_⟩
       have s:b'=g:=by
        rw [e'] at c1
        injection c1 with c1
        injection c1 with c1
        exact c1.symm
       exact (World.cell?_of_block (far b' (by omega) (by omega))).trans (hs' k r)
structure Zad(w:World)(b k n:Nat)(ts:List Wb)(lo:Nat->Nat):Prop where
 lt:b<w.heap.size
 first:b<lo 0
 last:lo k<=w.heap.size
 mono:∀i,i<k->lo i<=lo (i+1)
 at_:∀i,i<k->∃bm bl,w.cell? ⟨b,i*2,none⟩=some (.slice (some ⟨bm,0,none⟩) (Zi ts i).1.length (Zi ts i).1.length)/\w.cell? ⟨b,i*2+1,none⟩=some (.slice (some ⟨bl,0,none⟩) (Zi ts i).2.length (Zi ts i).2.length)/\Zct (lo i) (lo (i+1)) w bm bl (Zi ts i).1 (Zi ts i).2
 room:∀j,j<n*2->∃v,w.cell? ⟨b,j,none⟩=some v
 frozen:∀j,w.frozen? ⟨b,j,none⟩=false
theorem Zad.lo_le{w:World}{b k n:Nat}{ts:List Wb}{lo:Nat->Nat}(h:Zad w b k n ts lo)(i:Nat)(hi:i<=k):lo 0<=lo i:=by
 induction i with
 | zero=>exact Nat.le_refl _
 | succ i ih=>exact Nat.le_trans (ih (by omega)) (h.mono i (by omega))
theorem Zad.le_last{w:World}{b k n:Nat}{ts:List Wb}{lo:Nat->Nat}(h:Zad w b k n ts lo)(i:Nat)(hi:i<=k):lo i<=lo k:=by
 obtain⟨d,rfl⟩:∃d,k=i+d:=⟨k-i,by omega⟩
 clear hi
 have:∀m,m<=d->lo i<=lo (i+m):=by
  intro m
  induction m with
  | zero=>intro _;exact Nat.le_refl _
  | succ m ih=>intro a;exact Nat.le_trans (ih (by omega)) (h.mono (i+m) (by omega))
 exact this d (Nat.le_refl _)
theorem Zad.next{w w':World}{b k n:Nat}{ts:List Wb}{lo:Nat->Nat}(h:Zad w b k n ts lo)(L:Below w.heap.size w w'):Zad w' b k n ts lo:=by
 refine⟨Nat.lt_of_lt_of_le h.lt L.size,h.first,Nat.le_trans h.last L.size,h.mono,fun i c=>?_,fun j f=>?_,fun j=>(L.frozen (p:=⟨b,j,none⟩) h.lt).trans (h.frozen j)⟩
 · obtain⟨a,g,c0,c1,e⟩:=h.at_ i c
   exact⟨a,g,(L.cell (p:=⟨b,i*2,none⟩) h.lt).trans c0,(L.cell (p:=⟨b,i*2+1,none⟩) h.lt).trans c1,e.next L⟩
 · obtain⟨v,d⟩:=h.room j f
   exact⟨v,(L.cell (p:=⟨b,j,none⟩) h.lt).trans d⟩
theorem Zad.view{w:World}{b:Nat}{ts:List Wb}{lo:Nat->Nat}(h:Zad w b ts.length ts.length ts lo):Zp true w (some ⟨b,0,none⟩) ts:=
 Or.inr ⟨b,0,rfl,h.lt,fun i hi=>by
  obtain⟨bm,bl,c0,c1,ho⟩:=h.at_ i hi
  exact⟨_,_,_,_,by rw [Nat.zero_add];exact c0,by rw [Nat.zero_add];exact c1,ho.mv,ho.cv,fun _=>⟨Nat.le_refl _,Nat.le_refl _⟩⟩⟩
theorem Zad.start(w:World)(n:Nat)(ts:List Wb)(t:TypeId):Zad (w.alloc (.cells (madeCells #[.slice none 0 0,.slice none 0 0] (n*2)) t)) w.heap.size 0 n ts (fun _=>w.heap.size+1):=by
 refine⟨by simp,by simp,by simp,fun i a=>by omega,fun i a=>by omega,fun j b=>?_,fun j=>World.frozen?_alloc_at _ _ _ _ rfl⟩
 rw [World.cell?_alloc_at _ _ _ _ rfl]
 refine⟨_,Array.getElem?_eq_getElem (by rw [size_madeCells];exact b)⟩
def ZeV(f:Nat->Nat)(m v:Nat)(i:Nat):Nat:=if i=m then v else f i
theorem Zad.step{w w':World}{b k n bm bl:Nat}{ts:List Wb}{lo:Nat->Nat}(h:Zad w b k n ts lo)(hk:k<n)(L:Below w.heap.size w w')(ho:Zct w.heap.size w'.heap.size w' bm bl (Zi ts k).1 (Zi ts k).2):
 Zad ((w'.setCell ⟨b,k*2,none⟩ (.slice (some ⟨bm,0,none⟩) (Zi ts k).1.length (Zi ts k).1.length)).setCell ⟨b,k*2+1,none⟩ (.slice (some ⟨bl,0,none⟩) (Zi ts k).2.length (Zi ts k).2.length)) b (k+1) n ts (ZeV lo (k+1) w'.heap.size):=by
 have N:=h.lt
 have K:b<w'.heap.size:=Nat.lt_of_lt_of_le N L.size
 have g:=h.next L
 generalize hu:Value.slice (some ⟨bm,0,none⟩) (Zi ts k).1.length (Zi ts k).1.length=u
 generalize t:Value.slice (some ⟨bl,0,none⟩) (Zi ts k).2.length (Zi ts k).2.length=v
 obtain⟨W,f⟩:∃W,(w'.setCell ⟨b,k*2,none⟩ u).setCell ⟨b,k*2+1,none⟩ v=W:=⟨_,rfl⟩
 have C:W.heap.size=w'.heap.size:=by rw [<-f];simp [World.setCell]
 have far:∀i,i≠b->W.heap[i]? =w'.heap[i]? :=fun i l=>by
  rw [<-f,Below.heap_setCell _ ⟨b,k*2+1,none⟩ _ i (fun e=>l e),Below.heap_setCell _ ⟨b,k*2,none⟩ _ i (fun e=>l e)]
 obtain⟨O,o⟩:=g.room (k*2) (by omega)
 obtain⟨M,A⟩:=g.room (k*2+1) (by omega)
 have c0:W.cell? ⟨b,k*2,none⟩=some u:=by rw [<-f,World.cell?_setCell_other _ _ _ _ (by intro e;simp only [Addr.mk.injEq] at e;omega)];exact World.cell?_setCell_same _ _ _ o
 have c1:W.cell? ⟨b,k*2+1,none⟩=some v:=by
  rw [<-f]
  refine World.cell?_setCell_same _ _ _ (?_:_=some M)
  rw [World.cell?_setCell_other _ _ _ _ (by intro e;simp only [Addr.mk.injEq] at e;omega)]
  exact A
 have z:∀j,j≠k*2->j≠k*2+1->W.cell? ⟨b,j,none⟩=w'.cell? ⟨b,j,none⟩:=fun j c q=>by
  rw [<-f,World.cell?_setCell_other _ _ _ _ (by intro e;simp only [Addr.mk.injEq] at e;omega),World.cell?_setCell_other _ _ _ _ (by intro e;simp only [Addr.mk.injEq] at e;omega)]
 rw [f]
 have m:=h.first
 have B:lo k<=w.heap.size:=h.last
 have J:=L.size
 have d:∀i,i<=k->ZeV lo (k+1) w'.heap.size i=lo i:=fun i l=>by unfold ZeV;rw [if_neg (by omega)]
 have y:ZeV lo (k+1) w'.heap.size (k+1)=w'.heap.size:=by unfold ZeV;rw [if_pos rfl]
 refine⟨by omega,by rw [d 0 (by omega)];exact m,by rw [y];omega,fun i l=>?_,fun i l=>?_,fun j E=>?_,fun j=>?_⟩
 · rcases Nat.lt_or_ge i k with c | c
   · rw [d i (by omega),d (i+1) (by omega)];exact h.mono i c
   · obtain rfl:i=k:=by omega
     rw [d i (by omega),y];omega
 · rcases Nat.lt_or_ge i k with c | c
   · obtain⟨r,s,H,G,p⟩:=g.at_ i c
     rw [d i (by omega),d (i+1) (by omega)]
     have D:=h.lo_le i (by omega)
     have I:=h.le_last (i+1) (by omega)
     exact⟨r,s,(z _ (by omega) (by omega)).trans H,(z _ (by omega) (by omega)).trans G,p.far (by omega) (fun j x F=>far j (by omega))⟩
   · obtain rfl:i=k:=by omega
     rw [d i (by omega),y]
     refine⟨bm,bl,by rw [c0,hu],by rw [c1,t],?_⟩
     have a:Zct w.heap.size w'.heap.size W bm bl (Zi ts i).1 (Zi ts i).2:=ho.far (by omega) (fun j x _=>far j (by omega))
     exact⟨Nat.le_trans B a.lo,a.mv,a.cv,a.mo,a.co,a.lt,a.hi⟩
 · by_cases c:j=k*2
   · exact⟨_,by rw [c];exact c0⟩
   · by_cases q:j=k*2+1
     · exact⟨_,by rw [q];exact c1⟩
     · obtain⟨v,t⟩:=g.room j E
       exact⟨v,(z j c q).trans t⟩
 · rw [<-f]
   simp only [World.frozen?_setCell]
   exact g.frozen j
def Zo4:Prop:=∀(am:Option Addr) (cm:Nat) (ms:List Mk) (al:Option Addr) (cl:Nat) (ls:List (List Int)) (w:World),Zo w am ms->ZS w al ls->ZL ms->Z7 ls->ms.length<=cm->ls.length<=cl->Calls Tryz.prog 153 #[.agg #[.slice am ms.length cm,.slice al ls.length cl]] w fun e w'=>e=.returned (.bool (Zax ms ls))/\Below w.heap.size w w'
def Zbs(base:Nat)(w:World)(v:Value)(rs:List Rw):Prop:=(v=.slice none 0 0/\rs=[])\/∃g c,v=.slice (some ⟨g,0,none⟩) rs.length c/\Zba base w g c rs
theorem Zbs.owns{base:Nat}{w:World}{v:Value}{rs:List Rw}(h:Zbs base w v rs):w.ownsRow base 31 1 v rs.length (rs.map rwV):=by
 rcases h with ⟨rfl,rfl⟩ | ⟨g,c,rfl,h⟩
 · exact World.ownsRow_nil w base _ _
 · exact h.row
theorem Zbs.same{base:Nat}{w w':World}{v:Value}{rs:List Rw}(h:Zbs base w v rs)(e:∀i,base<=i->i<w.heap.size->w'.heap[i]? =w.heap[i]?):Zbs base w' v rs:=by
 rcases h with h | ⟨g,c,rfl,h⟩
 · exact Or.inl h
 · exact Or.inr ⟨g,c,rfl,h.same (fun i a=>e i (h.all i a).1 (h.all i a).2)⟩
theorem Zbs.snoc{base:Nat}{w w8:World}{v:Value}{gg cc:Nat}{rs:List Rw}{r:Rw}(h:Zbs base w v rs)(hown:w8.ownsRow base 31 1 (.slice (some ⟨gg,0,none⟩) (rs.length+1) cc) (rs.length+1) (rs.map rwV++[rwV r]))
 (hgrow:w.grownBy w8 v.ownBlock) (hat:v.ownBlock=some gg\/gg=w.heap.size) (hr:ZQ base w r.1 r.2.1 r.2.2) (hnew:∀i,base<=i->i<w.heap.size->(v.ownBlock=some i\/∃x∈rs,i=x.1)->i<r.1):Zba base w8 gg cc (rs++[r]):=by
 have j:=hr.lt
 rcases h with ⟨rfl,rfl⟩ | ⟨g,c,rfl,h⟩
 · have f:gg=w.heap.size:=by
    rcases hat with e | e
    · cases e
    · exact e
   refine⟨?_,fun x a=>?_,by simp,fun x a=>?_⟩
   · simpa [Zdu] using hown
   · simp at a;rw [a]
     exact hr.kept hgrow (by simp [Value.ownBlock])
   · simp at a;rw [a];omega
 · have b:=h.row.lt
   refine h.snoc hown hgrow ?_ hr ?_ ?_
   · rcases hat with e | e
     · left;simpa [Value.ownBlock] using e
     · exact Or.inr e
   · have:=hnew g b.1 b.2 (Or.inl rfl);omega
   · intro x a
     have d:=(h.rows x a).lt
     have:=hnew x.1 d.1 d.2 (Or.inr ⟨x,a,rfl⟩)
     omega
structure Zdj(B O:Nat)(w w':World):Prop where
 os:w'.os=w.os
 tape:w'.tape=w.tape
 output:w'.output=w.output
 size:w.heap.size<=w'.heap.size
 block:∀i,i<B->i≠O->w'.heap[i]? =w.heap[i]?
theorem Zdj.refl(B O:Nat)(w:World):Zdj B O w w:=⟨rfl,rfl,rfl,Nat.le_refl _,fun _ _ _=>rfl⟩
theorem Zdk{w:World}{n:Nat}{r:Rw}(hb:w.heap[n]? =some (.cells #[rwV r] 31 (0,0))):(∀j u,[rwV r][j]? =some u->w.cell? ((⟨n,0,none⟩:Addr).add j)=some u)/\∀u∈[rwV r],u.oneCell'=true:=
 ⟨World.news_of_block (cs:=#[rwV r]) hb,by simp [rwV,Value.oneCell']⟩
theorem Zaz{base:Nat}{w w':World}{e:TypeId}{size g c n:Nat}{xs:List Value}(h:w.ownsRow base e size (.slice (some ⟨g,0,none⟩) n c) n xs)(hh:w'.heap[g]? =w.heap[g]?):w'.ownsRow base e size (.slice (some ⟨g,0,none⟩) n c) n xs:=by
 refine⟨h.1,?_⟩
 rcases h.2 with hn | ⟨g',cap,cur,e1,hb,hgg,rest⟩
 · exact .inl hn
 · refine .inr ⟨g',cap,cur,e1,hb,?_,rest⟩
   injection e1 with e2 e3 e4
   injection e2 with e5
   injection e5 with e6
   rw [<-e6,hh,e6]
   exact hgg
theorem ZeK{base base':Nat}{w:World}{e:TypeId}{size n:Nat}{v:Value}{xs:List Value}(h:w.ownsRow base e size v n xs)(hb:base'<=base):w.ownsRow base' e size v n xs:=⟨h.1,h.2.imp id fun ⟨g',cap,cur,e,hg,r⟩=>⟨g',cap,cur,e,Nat.le_trans hb hg,r⟩⟩
theorem Zl9(am al:Option Addr)(cm cl:Nat)(ms:List Mk)(ls:List (List Int))(w:World)(hm:Zo w am ms)(hl:ZS w al ls)(h60:ms.length<=60)(h4:∀i,(mat ms i).length<=4)(hl60:ls.length<=60)(hll:∀i,(cn ls i).length<=60):
 Calls Tryz.prog 161 #[.agg #[.slice am ms.length cm,.slice al ls.length cl]] w fun e w'=>∃gm c ds v rs B1,e=.returned (.agg #[.slice (some ⟨gm,0,none⟩) ms.length c,v])/\Z2 w.heap.size w' gm c ds/\Zs ds=ms/\Zbs B1 w' v rs/\Zbw rs=ls/\gm<B1/\(∀d∈ds,d.2.1<B1)/\w.heap.size<=B1/\B1<=w'.heap.size/\Below w.heap.size w w':=by
 obtain⟨i0,aN,aH,b8,aO⟩:=info_parts Tryz.info2
 obtain⟨j0,b1,aQ,aS,aX⟩:=info_parts Tryz.infoL
 obtain⟨W,hW⟩:∃W,w.alloc (.cells #[.slice am ms.length cm,.slice al ls.length cl] 158)=W:=⟨_,rfl⟩
 obtain⟨W2,J⟩:∃W2,W.alloc (.cells #[.slice none 0 0,.slice none 0 0] 158)=W2:=⟨_,rfl⟩
 have hB:=balZ hW
 have a3:=balZ J
 have s1:=salZ hW
 have s2:W2.heap.size=w.heap.size+1+1:=by rw [<-J];simp [s1]
 have ak:Zac W w.heap.size am cm ms al cl ls:=by rw [<-hW];exact Zac.box hm hl
 have hI:=ak.below a3
 have t1:=nal2Z J s1
 have HI:=Za hI
 have HB:=Za (Zb hB a3)
 have HT:=Za t1
 have k0:=hI.c0
 have HC:=Za (Zma am cm ms W2 hI.mv h60 h4)
 have b7:=Za hll
 have ag:=Za hl
 clear hm hl hB a3 hI ak t1 h4 hll
 go_enter Tryz.func161,Tryz.ntmps161
 go_wp2_with fail
 refine HC.out.mono ?_
 rintro e L ⟨gm,c,ds,rfl,hrow,an,L3⟩
 obtain⟨R,B⟩:∃R,L.alloc (.cells #[.slice (some ⟨gm,0,none⟩) ms.length c,.slice none 0 0] 158)=R:=⟨_,rfl⟩
 have E:=balZ B
 have s4:=salZ B
 have z3:=L3.size
 have a7:Hid (R.heap[L.heap.size]? =some (.cells #[.slice (some ⟨gm,0,none⟩) ms.length c,.slice none 0 0] 158)):=by show _=_;rw [<-B];exact heap_alloc_new L _
 have a0:=Za (hrow.kept (r:=none) ⟨E.os,E.tape,E.output,E.size,fun i hi _=>E.block i hi⟩ (by simp))
 have a5:Hid (gm<L.heap.size/\∀d∈ds,d.2.1<L.heap.size):=⟨hrow.lt.2,fun d y=>(hrow.2.1 d y).1.lt2.2⟩
 have aJ:=Za an
 have ao:=Za (HI.out.below (Zb L3 E))
 have b3:=Za ((E.block _ (by omega)).trans ((L3.block _ (by omega)).trans HT.out))
 have z:=Za (Zb (Zb HB.out L3) E)
 have c1:=ao.out.c1
 have ah:=Za B
 clear hrow an L3 E HC HI HT hW J k0 B
 go_wp2_with fail
 rw [ah.out]
 obtain⟨O,hO⟩:∃O,L.heap.size=O:=⟨_,rfl⟩
 rw [hO] at a7 a5 s4 z3
 rw [hO]
 have bw:=Za hO
 clear hO ah
 have b4:Hid (∀wr,Zdj (O+1) O R wr->Below w.heap.size w wr):=fun wr K=>⟨K.os.trans z.out.os,K.tape.trans z.out.tape,K.output.trans z.out.output,Nat.le_trans z.out.size K.size,fun i hi=>(K.block i (by omega) (by omega)).trans (z.out.block i hi)⟩
 go_loopw [4] (fun vi wr=>∃(i:Nat) (v:Value) (rs:List Rw),i<=ls.length/\vi=.int .i64 i/\wr.heap[O]? =some (.cells #[.slice (some ⟨gm,0,none⟩) ms.length c,v] 158)/\Zbs (O+1) wr v rs/\rs.length=i/\Zbw rs=ls.take i/\Zdj (O+1) O R wr) (fun vi _=>ls.length-(intOf vi).toNat)
 case atStart=>exact⟨0,.slice none 0 0,[],Nat.zero_le _,rfl,a7.out,Or.inl ⟨rfl,rfl⟩,rfl,rfl,Zdj.refl _ _ _⟩
 case round=>
  clear a7
  obtain⟨i,v,rs,hi,rfl,I,X,a4,ac,K⟩:=hrel
  obtain⟨o0,o1,of,oO⟩:=ZV I
  have LB:=b4.out wr K
  have bM:=K.size
  have c1:wr.cell? ⟨w.heap.size,1,none⟩=some (.slice al ls.length cl):=(World.cell?_of_block (K.block w.heap.size (by omega) (by omega))).trans ao.out.c1
  have aZ:=Za I
  have T:=Za X
  have aq:=Za ac
  have a8:=Za a4
  have HK:=Za K
  have aP:=Za LB
  by_cases hlt:i<ls.length
  · obtain⟨bl,ol,rfl,bv,ay⟩:=(ag.out.next LB).seg (by omega)
    have bs:bl<w.heap.size:=by
     obtain⟨b',o',e',bz,-⟩:=ag.out.seg (by omega)
     injection e' with e'
     injection e' with e1 e2
     omega
    obtain⟨ai,ci,aR,ar⟩:=ay i hlt
    have bo:=b7.out i
    have aT:=Za ar
    have bg:=n0Z i
    have bk:(i:Int)<(ls.length:Int):=by omega
    have g:Hid (∀F:World,(∀j,j<O+1->F.heap[j]? =wr.heap[j]?)->F.cell? ⟨O,1,none⟩=some v/\F.cell? ⟨w.heap.size,1,none⟩=some (.slice (some ⟨bl,ol,none⟩) ls.length cl)/\F.cell? ⟨bl,ol+i,none⟩=some (.slice ai (cn ls i).length ci)):=fun F h=>⟨(World.cell?_of_block (h O (by omega))).trans o1,(World.cell?_of_block (h w.heap.size (by omega))).trans c1,(World.cell?_of_block (h bl (by omega))).trans aR⟩
    have b6:Hid (∀m s,Zbw (rs++[(m,s,cn ls i)])=ls.take (i+1)):=fun m s=>by
     show _=_
     rw [Zbw,List.map_append,<-Zbw,aq.out,List.take_add_one]
     congr 1
     simp [cn,List.getD,hlt]
    clear X ac a4 K LB ay ar I
    go_wp2_with fail
    refine Zao (S:=fun F=>F.cell? ⟨O,1,none⟩=some v/\F.cell? ⟨w.heap.size,1,none⟩=some (.slice (some ⟨bl,ol,none⟩) ls.length cl)/\F.cell? ⟨bl,ol+i,none⟩=some (.slice ai (cn ls i).length ci)) (fuel:=5)
     [0,1,3,4,5,6,7] _ rfl (by kernel_rfl) (by kernel_rfl) (by kernel_rfl) (by kernel_rfl) (by kernel_rfl) (by kernel_rfl) (by kernel_rfl) (g.out _ (fun j _=>rfl)) (fun _=>?_)
    iterate 7 (refine⟨_,rfl,?_⟩;apply Exists.intro;refine⟨Or.inl ⟨by rfl,fun w' aV=>?_⟩,?_⟩;(focus (obtain⟨e1,e2,e3⟩:=aV;go_simp<;>with_reducible rfl));simp only [Act.put,List.setIfInBounds_toArray])
    refine Zc 2 (by kernel_rfl) rfl (fun K k=>?_)
    go_simp
    obtain⟨w5,p⟩:∃w5,(wr.alloc (.cells #[] 2)).drew=w5:=⟨_,rfl⟩
    have P:Hid (Below wr.heap.size wr w5):=by show Below _ _ _;rw [<-p];exact ((Below.refl wr.heap.size wr).alloc (Nat.le_refl _) _).drew
    have au:Hid (Row (O+1) w5 wr.heap.size 0 []):=by show Row _ _ _ _ _;rw [<-p];exact Row.start wr (O+1) (by omega)
    have bD:w5.heap.size=wr.heap.size+1:=by rw [<-p];simp
    rw [p]
    clear p
    refine k.out _ _ (g.out _ (fun j l=>P.out.block j (by omega))) (fun _=>?_)
    clear k K
    refine Zc 8 (by kernel_rfl) rfl (fun K k=>?_)
    refine Zj w5 rfl (.tmp 18) (.tmp 23) 31 rfl (O+1) 2 i0 _ 1 8 Tryz.underlying31 aN aH b8 aO rfl (by omega) wr.heap.size 0 0 [] rfl au.out ai (cn ls i).length ci ((cn ls i).map (Value.int .i64)) rfl (Z9 (Zy.next aT.out P.out)) (by unfold maxLen;omega) (by omega) (by omega) w5.heap.size rfl ?_
    intro m s D t b ax bd
    have V:Hid (Row (O+1) D m s (cn ls i)):=Zbl t rfl
    have bP:=b.size
    have a6:Hid (Below wr.heap.size wr D):=P.out.grown b (by omega) (by intro q Y;cases Y;omega)
    have bi:wr.heap.size<=m:=by rcases ax with e | e <;> omega
    clear t b
    refine k.out _ _ (g.out _ (fun j l=>a6.out.block j (by omega))) (fun _=>?_)
    clear k K
    refine Zc 9 (by kernel_rfl) rfl (fun K k=>?_)
    go_simp
    obtain⟨Q,A⟩:∃Q,D.alloc (.cells #[.slice (some ⟨m,0,none⟩) (cn ls i).length s] 31)=Q:=⟨_,rfl⟩
    have ab:Hid (Q.heap[D.heap.size]? =some (.cells #[rwV (m,s,cn ls i)] 31 (0,0))):=by show _=_;rw [<-A];exact heap_alloc_new D _
    have Z:=balZ A
    have bH:=salZ A
    have f:=Za (Zb a6.out Z)
    have aj:=Za (V.out.next Z V.out.lt2.2)
    have M:=Za (T.out.same (w':=Q) (fun j _ l=>f.out.block j l))
    try rw [Nat.zero_add]
    try rw [A]
    clear A Z
    refine k.out _ _ (g.out _ (fun j l=>f.out.block j (by omega))) (fun _=>?_)
    clear k K
    refine Zc 10 (by kernel_rfl) rfl (fun K k=>?_)
    refine step_append_lies Q rfl (.tmp 17) (.tmp 25) 156 rfl (O+1) 31 j0 _ 1 24 Tryz.underlying156 b1 aQ aS aX rfl (by omega) v rs.length (rs.map rwV) rfl M.out.owns ⟨D.heap.size,0,none⟩ 1 1 [rwV (m,s,cn ls i)] rfl rfl (Zdk ab.out).1 (Zdk ab.out).2 (by omega) (by have:=a8.out;unfold maxLen;omega) (by have:=a8.out;omega) (by omega) Q.heap.size rfl ?_
    intro g8 U N n a af bc
    have a1:Hid (Zba (O+1) N g8 U (rs++[(m,s,cn ls i)])):=M.out.snoc n a af aj.out (fun j h1 h2 h3=>by
     have:j<wr.heap.size:=by
      rcases T.out with ⟨hv0,hr0⟩ | ⟨g',c',hv0,hm0⟩
      · rcases h3 with e | ⟨x,hx,-⟩
        · rw [hv0] at e;cases e
        · rw [hr0] at hx;cases hx
      · rcases h3 with e | ⟨x,hx,rfl⟩
        · rw [hv0] at e
          have e':g'=j:=by simpa [Value.ownBlock] using e
          have:=hm0.row.lt
          omega
        · exact (hm0.rows x hx).lt.2
     show j<m
     omega)
    have o:Hid (∀j,j<O+1->N.heap[j]? =wr.heap[j]?):=fun j l=>(a.block j (by omega) (fun e=>by
     rcases M.out with ⟨hv0,hr0⟩ | ⟨g',c',hv0,hm0⟩
     · rw [hv0] at e;cases e
     · rw [hv0] at e
       have e':j=g':=by simpa [Value.ownBlock] using e
       have:=hm0.row.lt
       omega)).trans (f.out.block j (by omega))
    have bx:=a.size
    have H:Hid (N.os=wr.os/\N.tape=wr.tape/\N.output=wr.output):=⟨a.os.trans f.out.os,a.tape.trans f.out.tape,a.output.trans f.out.output⟩
    clear n a
    refine k.out _ _ (g.out _ o.out) (fun _=>?_)
    clear k K
    refine Zc 11 (by kernel_rfl) rfl (fun K k=>?_)
    go_simp
    refine k.out _ _ (g.out _ o.out) (fun _=>?_)
    clear k K
    refine wpAnyH_done (by kernel_rfl) ?_ _
    simp only [Exit.then]
    have t8:=(o.out O (by omega)).trans aZ.out
    obtain⟨u0,u1,uf,uO⟩:=ZV t8
    have bE:=uf 1
    have aI:=Za (Zg0 (x:=.slice (some ⟨g8,0,none⟩) (rs.length+1) U) t8).2
    have b2:Hid (Zba (O+1) (N.setCell ⟨O,1,none⟩ (.slice (some ⟨g8,0,none⟩) (rs.length+1) U)) g8 U (rs++[(m,s,cn ls i)])):=a1.out.same (fun j l=>Below.heap_setCell N ⟨O,1,none⟩ _ j (fun e=>by have h1:=(a1.out.all j l).1;have:j=O:=e;omega))
    have aU:Hid (Zdj (O+1) O R (N.setCell ⟨O,1,none⟩ (.slice (some ⟨g8,0,none⟩) (rs.length+1) U))):=⟨H.out.1.trans HK.out.os,H.out.2.1.trans HK.out.tape,H.out.2.2.trans HK.out.output,by simp [World.setCell];omega,fun j l av=>(Below.heap_setCell N ⟨O,1,none⟩ _ j (fun e=>av e)).trans ((o.out j l).trans (HK.out.block j l av))⟩
    clear g P au a6 V f aj M ab a1 o H t8 u0 uf
    go_wp2_with fail
    refine NoPanic.normal ?_
    go_wp2_with fail
    go_roundw
    case rel=>exact⟨i+1,.slice (some ⟨g8,0,none⟩) (rs.length+1) U,rs++[(m,s,cn ls i)],by omega,by go_num,aI.out,Or.inr ⟨g8,U,by simp,b2.out⟩,by have:=a8.out;simp;omega,b6.out m s,aU.out⟩
    case measure=>simp [intOf];omega
  · obtain rfl:i=ls.length:=by omega
    have b5:Zbw rs=ls:=by rw [aq.out,List.take_length]
    have p1:=(K.block (w.heap.size+1) (by omega) (by omega)).trans b3.out
    obtain⟨q0,q1,qf,-⟩:=ZV p1
    have bN:=qf 0
    have bK:=qf 1
    have G:Hid (Z2 w.heap.size wr gm c ds):=by
     have h:=a0.out
     have a2:=a5.out
     refine⟨?_,fun d y=>⟨?_,(h.2.1 d y).2⟩,h.2.2⟩
     · exact ZeK (Zaz h.1 (K.block gm (by omega) (by omega))) (by omega)
     · have h2:=(h.2.1 d y).1
       have:=a2.2 d y
       exact (h2.same (K.block d.2.1 (by omega) (by omega))).mono14 (by omega)
    have HF:Hid (∀(u:Value) (w':World),Zbs (O+1) wr u rs->w'=(wr.setCell ⟨w.heap.size+1,0,none⟩ (.slice (some ⟨gm,0,none⟩) ms.length c)).setCell ⟨w.heap.size+1,1,none⟩ u->∃gm' c' ds' v' rs' B1,Ending.returned (.agg #[.slice (some ⟨gm,0,none⟩) ms.length c,u])=Ending.returned (.agg #[.slice (some ⟨gm',0,none⟩) ms.length c',v'])/\Z2 w.heap.size w' gm' c' ds'/\Zs ds'=ms/\Zbs B1 w' v' rs'/\Zbw rs'=ls/\gm'<B1/\(∀d∈ds',d.2.1<B1)/\w.heap.size<=B1/\B1<=w'.heap.size/\Below w.heap.size w w'):=fun u w' hu e=>by
     have C:∀j,j≠w.heap.size+1->w'.heap[j]? =wr.heap[j]? :=fun j l=>by
      rw [e,Below.heap_setCell _ ⟨w.heap.size+1,1,none⟩ _ j (fun e=>l e),Below.heap_setCell _ ⟨w.heap.size+1,0,none⟩ _ j (fun e=>l e)]
     have bI:w'.heap.size=wr.heap.size:=by rw [e];simp [World.setCell]
     have a2:=a5.out
     have bt:=a0.out.lt.1
     refine⟨gm,c,ds,u,rs,O+1,rfl,?_,aJ.out,hu.same (fun j h1 _=>C j (by omega)),b5,by omega,fun d y=>by have:=a2.2 d y;omega,by omega,by omega,?_⟩
     · refine⟨Zaz G.out.1 (C gm (by omega)),fun d y=>⟨?_,(G.out.2.1 d y).2⟩,G.out.2.2⟩
       have h3:=(a0.out.2.1 d y).1.lt2.1
       exact (G.out.2.1 d y).1.same (C d.2.1 (by omega))
     · rw [e]
       exact (aP.out.setCell (by show w.heap.size<=w.heap.size+1;omega) _).setCell (by show w.heap.size<=w.heap.size+1;omega) _
    clear X ac a4 LB I qf of K p1
    rcases T.out with ⟨hv0,hr0⟩ | ⟨gl,cl',hv0,hm0⟩
    · subst hv0
      have Y:=HF.out (.slice none 0 0) _ (Or.inl ⟨rfl,hr0⟩) rfl
      have HQ:=Za Y
      clear Y HF
      go_wp2_with fail
      refine bodyPost_ret (v:=.agg #[.slice (some ⟨gm,0,none⟩) ms.length c,.slice none 0 0]) (by simp [results,Tryz.results161,go_sem,q0,q1]) rfl ?_
      exact HQ.out
    · subst hv0
      have Y:=HF.out (.slice (some ⟨gl,0,none⟩) rs.length cl') _ (Or.inr ⟨gl,cl',rfl,hm0⟩) rfl
      have HQ:=Za Y
      clear Y HF hm0
      go_wp2_with fail
      refine bodyPost_ret (v:=.agg #[.slice (some ⟨gm,0,none⟩) ms.length c,.slice (some ⟨gl,0,none⟩) rs.length cl']) (by simp [results,Tryz.results161,go_sem,q0,q1]) rfl ?_
      exact HQ.out
theorem Zc2.at{s:Bool}{w:World}{b off:Nat}{ts:List Wb}(h:Zc2 s w b off ts){i:Nat}(hi:i<ts.length):∃am cm al cl,w.cell? ⟨b,off+i*2,none⟩=some (.slice am (Zi ts i).1.length cm)/\w.cell? ⟨b,off+i*2+1,none⟩=some (.slice al (Zi ts i).2.length cl)/\Zo w am (Zi ts i).1/\ZS w al (Zi ts i).2/\(s=true->(Zi ts i).1.length<=cm/\(Zi ts i).2.length<=cl):=h i hi
theorem Zad.far{w w':World}{b k n:Nat}{ts:List Wb}{lo:Nat->Nat}(h:Zad w b k n ts lo)(hs:w.heap.size<=w'.heap.size)(far:∀i,b<=i->i<w.heap.size->w'.heap[i]? =w.heap[i]?):Zad w' b k n ts lo:=by
 have a:=far b (Nat.le_refl _) h.lt
 have q:=h.first
 have m:=h.last
 refine⟨Nat.lt_of_lt_of_le h.lt hs,q,Nat.le_trans m hs,h.mono,fun i f=>?_,fun j g=>?_,fun j=>(World.frozen?_of_block a).trans (h.frozen j)⟩
 · obtain⟨c,o,c0,c1,e⟩:=h.at_ i f
   have r:=h.lo_le i (by omega)
   have s:=h.le_last (i+1) (by omega)
   exact⟨c,o,(World.cell?_of_block a).trans c0,(World.cell?_of_block a).trans c1,e.far hs (fun j l p=>far j (by omega) (by omega))⟩
 · obtain⟨v,d⟩:=h.room j g
   exact⟨v,(World.cell?_of_block a).trans d⟩
theorem ZkH(ao:Option Addr)(n cap:Nat)(left:Int)(w:World)(hn:n<=maxLen)(h0:0<=left)(h:left<n):
 Calls Tryz.prog 120 #[.slice ao n cap,.int .i64 left] w fun e w'=>e=.returned (.int .i64 (-1))/\w'=w:=by
 unfold maxLen at hn
 have a:left-n<0:=by omega
 go_enter Tryz.func120,Tryz.ntmps120
 go_wp2
 go_ret
 exact⟨rfl,rfl⟩
theorem Zmb(ao:Option Addr)(cap:Nat)(left:Int)(w:World)(h0:0<=left)(h1:left<=1048576):
 Calls Tryz.prog 120 #[.slice ao 0 cap,.int .i64 left] w fun e w'=>e=.returned (.int .i64 left)/\w'=w:=by
 have a:¬left<0:=by omega
 go_enter Tryz.func120,Tryz.ntmps120
 go_wp2
 refine wp_loop_rounds 1 ?_
 rw [rounds_succ]
 go_wp2
 go_ret
 exact⟨rfl,rfl⟩
theorem Zmc(s:Bool)(b off cap:Nat)(ts:List Wb)(left0:Int)(w:World)(hs:Zc2 s w b off ts)(hb:b<w.heap.size)(hn:(ts.length:Int)<=left0)(hl0:left0<=1048576)(hat:∀i,(Zi ts i).1.length<=maxLen/\(∀j,(mat (Zi ts i).1 j).length<=maxLen)/\(Zi ts i).2.length<=maxLen/\∀j,(cn (Zi ts i).2 j).length<=maxLen):
 Calls Tryz.prog 120 #[.slice (some ⟨b,off,none⟩) ts.length cap,.int .i64 left0] w fun e w'=>∃r,e=.returned (.int .i64 r)/\r<=left0/\(r<0\/(Z1 ts/\(ZeU ts:Int)+r=left0))/\Below w.heap.size w w':=by
 have Q:¬left0-ts.length<0:=by omega
 have p:=Za hat
 have m:=Za hs
 clear hat hs
 go_enter Tryz.func120,Tryz.ntmps120
 go_wp2
 go_loopw [1,5] (fun l i wr=>∃(k:Nat) (left:Int),k<=ts.length/\i=.int .i64 k/\l=.int .i64 left/\0<=left/\left+(tot (fun j=>ZcK (Zi ts j)) k:Nat)=left0-ts.length/\(∀j,j<k->ZL (Zi ts j).1/\Z7 (Zi ts j).2)/\Below w.heap.size w wr) (fun _ i _=>ts.length-(intOf i).toNat)
 case atStart=>exact⟨0,left0-ts.length,Nat.zero_le _,rfl,rfl,by omega,by simp [tot],fun j G=>by omega,Below.refl _ _⟩
 case round=>
  obtain⟨k,left,R,rfl,rfl,J,c,a,L⟩:=hrel
  have q:=Za c
  have M:left<=1048576:=by omega
  have d:left<=left0:=by omega
  clear c
  have C:=Za a
  have v:=Za L
  clear a
  by_cases hlt:k<ts.length
  · obtain⟨K,I,E,N,c0,c1,y,z,-⟩:=(m.out.next hb L).at hlt
    have n:Hid (tot (fun j=>ZcK (Zi ts j)) (k+1)=tot (fun j=>ZcK (Zi ts j)) k+ZcK (Zi ts k)):=rfl
    obtain⟨D,x,F,t⟩:=p.out k
    have H:=Za (szWg K E I N (Zi ts k).1 (Zi ts k).2 left wr y z J M D x F t)
    have u:=L.size
    have o:Hid (ZcK ((Zi ts k).1,(Zi ts k).2)=ZcK (Zi ts k)):=rfl
    clear y z x t L
    generalize hg1:(Zi ts k).1=gm at *
    generalize hg2:(Zi ts k).2=gl at *
    have A:=Za (And.intro hg1 hg2)
    clear hg1 hg2
    go_wp2_with fail
    refine H.out.mono ?_
    rintro e P ⟨r,rfl,O,f,B⟩
    by_cases hneg:r<0
    · go_wp2_with fail
      go_ret
      exact⟨-1,rfl,by omega,Or.inl (by omega),v.out.trans (B.mono u)⟩
    · have g:Hid (ZL gm/\Z7 gl/\(ZcK (gm,gl):Int)+r=left):=by rcases f with h | h;exact absurd h hneg;exact h
      clear f
      go_wp2_with fail
      go_roundw
      case rel=>exact⟨k+1,r,by omega,by go_num,rfl,by omega,by have:=g.out.2.2;have:=q.out;have:=n.out;have:=o.out;omega,fun j G=>by
       rcases Nat.lt_or_ge j k with h | h
       · exact C.out j h
       · rw [show j=k by omega,A.out.1,A.out.2];exact⟨g.out.1,g.out.2.1⟩,v.out.trans (B.mono u)⟩
      case measure=>simp [intOf];omega
  · go_wp2
    go_ret
    obtain rfl:k=ts.length:=by omega
    refine⟨_,rfl,d,Or.inr ⟨⟨by omega,fun i=>?_⟩,by have:=q.out;unfold ZeU;omega⟩,L⟩
    rcases Nat.lt_or_ge i ts.length with h | h
    · exact C.out i h
    · simp [Zi,List.getD,h,ZL,Z7,mat,cn]
theorem szWS(s:Bool)(ao:Option Addr)(cap:Nat)(ts:List Wb)(left0:Int)(w:World)(hv:Zp s w ao ts)(h0:0<=left0)(hl0:left0<=1048576)(hn:ts.length<=maxLen)(hat:∀i,(Zi ts i).1.length<=maxLen/\(∀j,(mat (Zi ts i).1 j).length<=maxLen)/\(Zi ts i).2.length<=maxLen/\∀j,(cn (Zi ts i).2 j).length<=maxLen):
 Calls Tryz.prog 120 #[.slice ao ts.length cap,.int .i64 left0] w fun e w'=>∃r,e=.returned (.int .i64 r)/\r<=left0/\(r<0\/(Z1 ts/\(ZeU ts:Int)+r=left0))/\Below w.heap.size w w':=by
 rcases Int.lt_or_le left0 ts.length with h | h
 · refine (ZkH ao ts.length cap left0 w hn h0 h).mono ?_
   rintro e w' ⟨rfl,rfl⟩
   exact⟨_,rfl,by omega,Or.inl (by omega),Below.refl _ _⟩
 · rcases hv with rfl | ⟨b,off,rfl,hb,hs⟩
   · refine (Zmb ao cap left0 w h0 hl0).mono ?_
     rintro e w' ⟨rfl,rfl⟩
     exact⟨_,rfl,by omega,Or.inr ⟨⟨by simp,fun i=>by simp [Zi,ZL,Z7,mat,cn]⟩,by simp [ZeU,tot]⟩,Below.refl _ _⟩
   · exact Zmc s b off cap ts left0 w hs hb h hl0 hat
theorem szTw(s:Bool)(ao:Option Addr)(cap:Nat)(d:Int)(ts:List Wb)(left0:Int)(w:World)(hv:Zp s w ao ts)(h0:0<=left0)(hl0:left0<=1048576)(hn:ts.length<=maxLen)(hat:∀i,(Zi ts i).1.length<=maxLen/\(∀j,(mat (Zi ts i).1 j).length<=maxLen)/\(Zi ts i).2.length<=maxLen/\∀j,(cn (Zi ts i).2 j).length<=maxLen):
 Calls Tryz.prog 77 #[.agg #[.int .i64 d,.slice ao ts.length cap],.int .i64 left0] w fun e w'=>∃r,e=.returned (.int .i64 r)/\r<=left0/\(r<0\/(Z1 ts/\(ZeU ts:Int)+r=left0))/\Below w.heap.size w w':=by
 obtain⟨W,b⟩:∃W,w.alloc (.cells #[.int .i64 d,.slice ao ts.length cap] 25)=W:=⟨_,rfl⟩
 have c:=balZ b
 have l:=Za c
 have f:=Za b
 have p:W.cell? ⟨w.heap.size,1,none⟩=some (.slice ao ts.length cap):=by rw [<-b];simp
 have n:=Za (szWS s ao cap ts left0 W (hv.next c) h0 hl0 hn hat)
 clear hv c hat b
 go_enter Tryz.func77,Tryz.ntmps77
 go_wp2_with fail
 rw [f.out]
 refine n.out.mono ?_
 rintro e o ⟨r,rfl,m,g,h⟩
 have k:=Za g
 have a:=Za (Zb l.out h)
 clear g h f
 by_cases hneg:r<0
 · go_wp2_with fail
   go_ret
   exact⟨-1,rfl,by omega,Or.inl (by omega),a.out⟩
 · go_wp2_with fail
   go_ret
   exact⟨r,rfl,by omega,k.out,a.out⟩
theorem Zmd(s:Bool)(b off cap:Nat)(ts:List Wb)(w:World)(hs:Zc2 s w b off ts)(hb:b<w.heap.size)(hsm:Z1 ts):
 Calls Tryz.prog 125 #[.slice (some ⟨b,off,none⟩) ts.length cap] w fun e w'=>e=.returned (.slice (some ⟨w.heap.size,0,none⟩) ts.length ts.length)/\(∃lo,Zad w' w.heap.size ts.length ts.length ts lo)/\Below w.heap.size w w':=by
 obtain⟨H,c⟩:=hsm
 have d:=Za c
 have h:=Za hs
 clear c hs
 have m:=Zai (P:=Tryz.prog) 37 158 (.agg #[.slice none 0 0,.slice none 0 0]) 2 48 Tryz.underlying37 Tryz.info158 .i64 .i64 ts.length (by omega) (by omega)
 go_enter Tryz.func125,Tryz.ntmps125
 go_wp2
 clear m
 go_loopw [4] (fun i wr=>∃(k:Nat) (lo:Nat->Nat),k<=ts.length/\i=.int .i64 k/\Zad wr w.heap.size k ts.length ts lo/\Below w.heap.size w wr) (fun i _=>ts.length-(intOf i).toNat)
 case atStart=>exact⟨0,_,Nat.zero_le _,rfl,Zad.start w _ _ _,(Below.refl _ _).alloc (Nat.le_refl _) _⟩
 case round=>
  obtain⟨k,lo,N,rfl,f,L⟩:=hrel
  by_cases hlt:k<ts.length
  · obtain⟨z,y,t,B,c0,c1,o,q,-⟩:=(h.out.next hb L).at hlt
    have n:=Za (toW z t y B (Zi ts k).1 (Zi ts k).2 wr o q (d.out k).1 (d.out k).2)
    have u:=L.size
    have A:=f.lt
    have r:=Za f
    have x:=Za L
    have v:Hid (Zi ts k=((Zi ts k).1,(Zi ts k).2)):=rfl
    clear o q f L
    go_wp2_with fail
    refine n.out.mono ?_
    rintro e F ⟨C,D,rfl,p,g⟩
    have j:=Za (r.out.step hlt g p)
    have a:=r.out.next g
    obtain⟨I,K⟩:=a.room (k*2) (by omega)
    obtain⟨G,E⟩:=a.room (k*2+1) (by omega)
    have J:=a.frozen (k*2)
    have M:=a.frozen (k*2+1)
    have l:=Za (x.out.trans (g.mono u))
    clear p g a n
    go_wp2_with fail
    go_roundw
    case rel=>exact⟨k+1,_,by omega,by go_num,j.out,(l.out.setCell (by simp) _).setCell (by simp) _⟩
    case measure=>simp [intOf];omega
  · go_wp2
    go_ret
    obtain rfl:k=ts.length:=by omega
    exact⟨rfl,⟨lo,f⟩,L⟩
theorem Zme(ao:Option Addr)(cap:Nat)(w:World):
 Calls Tryz.prog 125 #[.slice ao 0 cap] w fun e w'=>e=.returned (.slice (some ⟨w.heap.size,0,none⟩) 0 0)/\w'=w.alloc (.cells #[] 158):=by
 have a:∀w,(Instr.makeSlice 37 (.int .i64 0) (.int .i64 0)).run Tryz.prog w=.ok (.slice (some ⟨w.heap.size,0,none⟩) 0 0) (w.alloc (.cells #[] 158)):=fun _=>by kernel_rfl
 go_enter Tryz.func125,Tryz.ntmps125
 go_wp2
 clear a
 refine wp_loop_rounds 1 ?_
 rw [rounds_succ]
 go_wp2
 go_ret
 exact⟨rfl,rfl⟩
theorem toWS(s:Bool)(ao:Option Addr)(cap:Nat)(ts:List Wb)(w:World)(hv:Zp s w ao ts)(hsm:Z1 ts):
 Calls Tryz.prog 125 #[.slice ao ts.length cap] w fun e w'=>∃b lo,e=.returned (.slice (some ⟨b,0,none⟩) ts.length ts.length)/\Zad w' b ts.length ts.length ts lo/\w.heap.size<=b/\Below w.heap.size w w':=by
 rcases hv with rfl | ⟨b,off,rfl,hb,hs⟩
 · refine (Zme ao cap w).mono ?_
   rintro e w' ⟨rfl,rfl⟩
   exact⟨_,fun _=>w.heap.size+1,rfl,⟨by simp,by simp,by simp,fun i a=>by simp at a,fun i a=>by simp at a,fun j c=>by simp at c,fun j=>World.frozen?_alloc_at _ _ _ _ rfl⟩,Nat.le_refl _,(Below.refl _ _).alloc (Nat.le_refl _) _⟩
 · refine (Zmd s b off cap ts w hs hb hsm).mono ?_
   rintro e w' ⟨rfl,⟨lo,d⟩,L⟩
   exact⟨_,lo,rfl,d,Nat.le_refl _,L⟩
theorem toTw(s:Bool)(ao:Option Addr)(cap:Nat)(d:Int)(ts:List Wb)(w:World)(hv:Zp s w ao ts)(hsm:Z1 ts):
 Calls Tryz.prog 82 #[.agg #[.int .i64 d,.slice ao ts.length cap]] w fun e w'=>∃b lo,e=.returned (.agg #[.int .i64 d,.slice (some ⟨b,0,none⟩) ts.length ts.length])/\Zad w' b ts.length ts.length ts lo/\w.heap.size<=b/\Below w.heap.size w w':=by
 obtain⟨h,c⟩:∃W,w.alloc (.cells #[.int .i64 d,.slice ao ts.length cap] 25)=W:=⟨_,rfl⟩
 obtain⟨g,a⟩:∃W,h.alloc (.cells #[.int .i64 0,.slice none 0 0] 39)=W:=⟨_,rfl⟩
 obtain⟨W,o⟩:∃W,g.alloc (.cells #[.int .i64 d,.slice none 0 0] 39)=W:=⟨_,rfl⟩
 have s1:=salZ c
 have s2:g.heap.size=w.heap.size+1+1:=by rw [<-a];simp [s1]
 have G:W.heap.size=w.heap.size+1+1+1:=by rw [<-o];simp [s2]
 have E:=balZ c
 have t:=balZ a
 have p:=balZ o
 have r:Below w.heap.size w W:=Zb (Zb E t) p
 have D:W.heap[w.heap.size]? =some (.cells #[.int .i64 d,.slice ao ts.length cap] 25):=(p.block _ (by omega)).trans ((t.block _ (by omega)).trans (by rw [<-c];exact heap_alloc_new w _))
 have j:W.heap[w.heap.size+1]? =some (.cells #[.int .i64 0,.slice none 0 0] 39):=(p.block _ (by omega)).trans (by rw [<-a,<-s1];exact heap_alloc_new h _)
 have m:=nal2Z o s2
 obtain⟨L,I,-,-⟩:=ZV D
 have C:=Za (toWS s ao cap ts W (hv.next r) hsm)
 have O:=Za r
 have z:=Za (And.intro j m)
 have k:Hid _:=aw3Z c a o
 clear r hv E t p D j m c a o L I
 go_enter Tryz.func82,Tryz.ntmps82
 go_wp2_with fail
 rw [k.out]
 refine C.out.mono ?_
 rintro e u ⟨b,lo,rfl,A,X,q⟩
 obtain⟨j,m⟩:=z.out
 have u1:=(q.block _ (by omega)).trans j
 have u2:=(q.block _ (by omega)).trans m
 obtain⟨H,x,y,-⟩:=ZV u1
 obtain⟨V,P,B,-⟩:=ZV u2
 have Q:=y 0
 have S:=y 1
 have K:=B 1
 have N:=Za (And.intro A (Zb O.out q))
 clear A q z j m u1 u2 y B C k
 go_wp2_with fail
 refine bodyPost_ret (v:=.agg #[.int .i64 d,.slice (some ⟨b,0,none⟩) ts.length ts.length]) (by simp [results,Tryz.results82,go_sem,H,x]) rfl ?_
 obtain⟨n,f⟩:∃n,((u.setCell ⟨w.heap.size+1+1,1,none⟩ (.slice (some ⟨b,0,none⟩) ts.length ts.length)).setCell ⟨w.heap.size+1,0,none⟩ (.int .i64 d)).setCell ⟨w.heap.size+1,1,none⟩ (.slice (some ⟨b,0,none⟩) ts.length ts.length)=n:=⟨_,rfl⟩
 obtain⟨F,R⟩:=N.out
 have l:∀i,b<=i->n.heap[i]? =u.heap[i]? :=fun i U=>by
  rw [<-f,Below.heap_setCell _ ⟨w.heap.size+1,1,none⟩ _ i (fun e=>by have:i=w.heap.size+1:=e;omega),Below.heap_setCell _ ⟨w.heap.size+1,0,none⟩ _ i (fun e=>by have:i=w.heap.size+1:=e;omega),Below.heap_setCell _ ⟨w.heap.size+1+1,1,none⟩ _ i (fun e=>by have:i=w.heap.size+1+1:=e;omega)]
 have T:n.heap.size=u.heap.size:=by rw [<-f];simp [World.setCell]
 have J:Below w.heap.size w n:=by rw [<-f];exact ((R.setCell (by show w.heap.size<=w.heap.size+1+1;omega) _).setCell (by show w.heap.size<=w.heap.size+1;omega) _).setCell (by show w.heap.size<=w.heap.size+1;omega) _
 rw [f]
 exact⟨b,lo,rfl,F.far (by omega) (fun i M _=>l i M),by omega,J⟩
theorem ZhO(ao ao':Option Addr)(cap cap':Nat)(w:World):
 Calls Tryz.prog 139 #[.slice ao 0 cap,.slice ao' 0 cap'] w fun e w'=>e=.returned (.bool true)/\w'=w:=by
 go_enter Tryz.func139,Tryz.ntmps139
 go_wp2
 refine wp_loop_rounds 1 ?_
 rw [rounds_succ]
 go_wp2
 go_ret
 exact⟨rfl,rfl⟩
theorem Zmf(s s':Bool)(b off cap b' off' cap':Nat)(ts:List Wb)(w:World)(hs:Zc2 s w b off ts)(hs':Zc2 s' w b' off' ts)(hb:b<w.heap.size)(hb':b'<w.heap.size)(hsm:Z1 ts):
 Calls Tryz.prog 139 #[.slice (some ⟨b,off,none⟩) ts.length cap,.slice (some ⟨b',off',none⟩) ts.length cap'] w fun e w'=>e=.returned (.bool true)/\Below w.heap.size w w':=by
 obtain⟨M,n⟩:=hsm
 have o:=Za n
 have v:=Za hs
 have g:=Za hs'
 clear n hs hs'
 go_enter Tryz.func139,Tryz.ntmps139
 go_wp2
 go_loopw [5] (fun i wr=>∃k:Nat,k<=ts.length/\i=.int .i64 k/\Below w.heap.size w wr) (fun i _=>ts.length-(intOf i).toNat)
 case atStart=>exact⟨0,Nat.zero_le _,rfl,Below.refl _ _⟩
 case round=>
  obtain⟨k,N,rfl,L⟩:=hrel
  by_cases hlt:k<ts.length
  · obtain⟨D,B,z,E,t,r,A,C,-⟩:=(v.out.next hb L).at hlt
    obtain⟨q,f,h,m,u,y,j,d,-⟩:=(g.out.next hb' L).at hlt
    have I:=n0Z k
    have F:(k:Int)<(ts.length:Int):=by omega
    have H:=L.size
    have l:b<wr.heap.size:=by omega
    have a:b'<wr.heap.size:=by omega
    have G:=Za (eqW D z q h B E f m (Zi ts k).1 (Zi ts k).2 wr.drew A C j d (o.out k).1 (o.out k).2)
    have x:=Za L
    clear L A C j d
    generalize (Zi ts k).1.length=ml at *
    generalize (Zi ts k).2.length=ll at *
    go_wp2
    go_region_held3 (fun w'=>w'.cell? ⟨b,off+k*2,none⟩=some (.slice D ml B)/\w'.cell? ⟨b,off+k*2+1,none⟩=some (.slice z ll E)/\w'.cell? ⟨b',off'+k*2,none⟩=some (.slice q ml f)/\w'.cell? ⟨b',off'+k*2+1,none⟩=some (.slice h ll m))
     (first
       | go_keep
       | (refine⟨(c.cell (p:=⟨b,off+k*2,none⟩) l).trans t,(c.cell (p:=⟨b,off+k*2+1,none⟩) l).trans r,(c.cell (p:=⟨b',off'+k*2,none⟩) a).trans u,(c.cell (p:=⟨b',off'+k*2+1,none⟩) a).trans y⟩))
     (first
       | (go_at_call 174;refine G.out.mono ?_;rintro e K ⟨rfl,c⟩))
    have J:=Za (x.out.drew.trans (c.mono H))
    clear c
    go_wp2
    go_roundw
    case rel=>exact⟨k+1,by omega,by go_num,J.out⟩
    case measure=>simp [intOf];omega
  · go_wp2
    go_ret
    exact⟨rfl,L⟩
theorem eqWS(s s':Bool)(ao ao':Option Addr)(cap cap':Nat)(ts:List Wb)(w:World)(hv:Zp s w ao ts)(hv':Zp s' w ao' ts)(hsm:Z1 ts):
 Calls Tryz.prog 139 #[.slice ao ts.length cap,.slice ao' ts.length cap'] w fun e w'=>e=.returned (.bool true)/\Below w.heap.size w w':=by
 rcases hv with rfl | ⟨b,off,rfl,hb,hs⟩
 · refine (ZhO ao ao' cap cap' w).mono ?_
   rintro e w' ⟨rfl,rfl⟩
   exact⟨rfl,Below.refl _ _⟩
 · rcases hv' with rfl | ⟨b',off',rfl,hb',hs'⟩
   · refine (ZhO _ ao' cap cap' w).mono ?_
     rintro e w' ⟨rfl,rfl⟩
     exact⟨rfl,Below.refl _ _⟩
   · exact Zmf s s' b off cap b' off' cap' ts w hs hs' hb hb' hsm
theorem eqTw(s s':Bool)(ao ao':Option Addr)(cap cap':Nat)(d:Int)(ts:List Wb)(w:World)(hv:Zp s w ao ts)(hv':Zp s' w ao' ts)(hsm:Z1 ts):
 Calls Tryz.prog 91 #[.agg #[.int .i64 d,.slice ao ts.length cap],.agg #[.int .i64 d,.slice ao' ts.length cap']] w fun e w'=>e=.returned (.bool true)/\Below w.heap.size w w':=by
 obtain⟨W,a⟩:∃W,(w.alloc (.cells #[.int .i64 d,.slice ao ts.length cap] 39)).alloc (.cells #[.int .i64 d,.slice ao' ts.length cap'] 39)=W:=⟨_,rfl⟩
 have b:Below w.heap.size w W:=by rw [<-a];exact ((Below.refl w.heap.size w).alloc (Nat.le_refl _) _).alloc (by simp) _
 have j:W.cell? ⟨w.heap.size,0,none⟩=some (.int .i64 d):=by rw [<-a];simp
 have l:W.cell? ⟨w.heap.size,1,none⟩=some (.slice ao ts.length cap):=by rw [<-a];simp
 have n:W.cell? ⟨w.heap.size+1,0,none⟩=some (.int .i64 d):=by rw [<-a];simp
 have i:W.cell? ⟨w.heap.size+1,1,none⟩=some (.slice ao' ts.length cap'):=by rw [<-a];simp
 have m:(d !=d)=false:=by simp
 have h:=Za (eqWS s s' ao ao' cap cap' ts W (hv.next b) (hv'.next b) hsm)
 have f:=Za b
 clear b hv hv' hsm
 go_enter Tryz.func91,Tryz.ntmps91
 go_wp2_with fail
 refine h.out.mono ?_
 rintro e k ⟨rfl,c⟩
 have g:=Za (Zb f.out c)
 clear c a
 go_wp2_with fail
 go_ret
 exact⟨rfl,g.out⟩
theorem Zba.uniq14{base:Nat}{w:World}{g c:Nat}{rs:List Rw}(h:Zba base w g c rs){i j:Nat}(hi:i<rs.length)(hj:j<rs.length)(e:rs[i].1=rs[j].1):i=j:=by
 have a:=List.pairwise_iff_getElem.1 h.apart
 rcases Nat.lt_trichotomy i j with h1 | h1 | h1
 · exact absurd (by rw [List.getElem_map,List.getElem_map];exact e) (a i j (by simpa using hi) (by simpa using hj) h1)
 · exact h1
 · exact absurd (by rw [List.getElem_map,List.getElem_map];exact e.symm) (a j i (by simpa using hj) (by simpa using hi) h1)
theorem Zba.over14{base:Nat}{w w8:World}{g c:Nat}{rs:List Rw}(h:Zba base w g c rs)(k:Nat)(hk:k<rs.length){gg cc:Nat}{ys:List Int}(hown:ZQ base w8 gg cc ys)(hg:w.grownBy w8 (some rs[k].1))(hat:rs[k].1=gg\/w.heap.size<=gg):
 Zba base (w8.setCell ⟨g,k,none⟩ (rwV (gg,cc,ys))) g c (rs.set k (gg,cc,ys)):=by
 have v:rs[k].1≠g:=h.off _ (List.getElem_mem hk)
 have p:∀x∈rs,base<=x.1/\x.1<w.heap.size:=fun x n=>(h.rows x n).lt
 have u:=h.row.lt
 have d:gg≠g:=by rcases hat with e | e <;> omega
 have f:∀j (a:j<rs.length),j≠k->rs[j].1≠gg:=fun j a o e=>by
  rcases hat with t | t
  · exact o (h.uniq14 a hk (by omega))
  · have:=p _ (List.getElem_mem a)
    omega
 have z:Zdu base w8 g c rs:=h.row.kept hg (by simp;omega)
 have b:∀i,i≠g->(w8.setCell ⟨g,k,none⟩ (rwV (gg,cc,ys))).heap[i]? =w8.heap[i]? :=fun i s=>Below.heap_setCell w8 ⟨g,k,none⟩ _ i (fun e=>s e)
 refine⟨?_,fun x n=>?_,?_,fun x n=>?_⟩
 · have m:=(World.ownsRow.stored z k (rwV (gg,cc,ys))).1
   unfold Zdu
   rw [List.length_set,List.map_set]
   exact m
 · obtain⟨j,a,e⟩:=List.getElem_of_mem n
   rw [List.length_set] at a
   rw [List.getElem_set] at e
   by_cases hjk:k=j
   · rw [if_pos hjk] at e
     rw [<-e]
     exact hown.same (b gg d)
   · rw [if_neg hjk] at e
     rw [<-e]
     have o:rs[j].1≠rs[k].1:=fun t=>hjk (h.uniq14 a hk t).symm
     have r:=(h.rows _ (List.getElem_mem a)).kept hg (by simp;omega)
     exact r.same (b _ (h.off _ (List.getElem_mem a)))
 · refine List.pairwise_iff_getElem.2 (fun i j s a y=>?_)
   have l:i<rs.length:=by simpa using s
   have q:j<rs.length:=by simpa using a
   simp only [List.getElem_map,List.getElem_set]
   by_cases m:k=i
   · rw [if_pos m,if_neg (by omega)]
     exact fun e=>f j q (by omega) e.symm
   · by_cases r:k=j
     · rw [if_neg m,if_pos r]
       exact fun e=>f i l (by omega) e
     · rw [if_neg m,if_neg r]
       exact fun e=>by have:=h.uniq14 l q e;omega
 · obtain⟨j,a,e⟩:=List.getElem_of_mem n
   rw [List.length_set] at a
   rw [List.getElem_set] at e
   by_cases hjk:k=j
   · rw [if_pos hjk] at e
     rw [<-e]
     exact d
   · rw [if_neg hjk] at e
     rw [<-e]
     exact h.off _ (List.getElem_mem a)
def Zgf(v:Value)(rs:List Rw)(i:Nat):Prop:=v.ownBlock=some i\/∃r∈rs,i=r.1
theorem Zdl{base:Nat}{w:World}{v:Value}{rs:List Rw}(h:Zbs base w v rs){i:Nat}(hi:Zgf v rs i):base<=i/\i<w.heap.size:=by
 rcases h with ⟨rfl,rfl⟩ | ⟨g,c,rfl,h⟩
 · rcases hi with e | ⟨r,hr,-⟩
   · cases e
   · cases hr
 · refine h.all i ?_
   rcases hi with e | ⟨r,hr,rfl⟩
   · left
     have a:g=i:=by simpa [Value.ownBlock] using e
     exact a.symm
   · exact Or.inr ⟨r,hr,rfl⟩
theorem ZcL{base:Nat}{w w':World}{v:Value}{rs:List Rw}(h:Zbs base w v rs)(e:∀i,Zgf v rs i->w'.heap[i]? =w.heap[i]?):Zbs base w' v rs:=by
 rcases h with h | ⟨g,c,rfl,h⟩
 · exact Or.inl h
 · refine Or.inr ⟨g,c,rfl,h.same (fun i a=>e i ?_)⟩
   rcases a with rfl | ⟨r,hr,rfl⟩
   · exact Or.inl rfl
   · exact Or.inr ⟨r,hr,rfl⟩
theorem ZhP{base:Nat}{w w8:World}{v:Value}{gg cc:Nat}{rs:List Rw}{r:Rw}(h:Zbs base w v rs)(hown:w8.ownsRow base 31 1 (.slice (some ⟨gg,0,none⟩) (rs.length+1) cc) (rs.length+1) (rs.map rwV++[rwV r]))
 (hgrow:w.grownBy w8 v.ownBlock) (hat:v.ownBlock=some gg\/gg=w.heap.size) (hr:ZQ base w r.1 r.2.1 r.2.2) (hnew:¬Zgf v rs r.1):Zba base w8 gg cc (rs++[r]):=by
 have d:=hr.lt
 rcases h with ⟨rfl,rfl⟩ | ⟨g,c,rfl,h⟩
 · have b:gg=w.heap.size:=by
    rcases hat with e | e
    · cases e
    · exact e
   refine⟨?_,fun x a=>?_,by simp,fun x a=>?_⟩
   · simpa [Zdu] using hown
   · simp at a;rw [a]
     exact hr.kept hgrow (by simp [Value.ownBlock])
   · simp at a;rw [a];omega
 · refine h.snoc hown hgrow ?_ hr (fun e=>hnew (Or.inl (by rw [e];rfl))) (fun x a e=>hnew (Or.inr ⟨x,a,e.symm⟩))
   rcases hat with e | e
   · left;simpa [Value.ownBlock] using e
   · exact Or.inr e
def Zo5(base:Nat)(w:World)(gm cm gl cl:Nat)(ms:List Mk)(ls:List (List Int)):Prop:=
 ∃B ds B' rs,base<=B/\base<=B'/\Z2 B w gm cm ds/\Zs ds=ms/\Zba B' w gl cl rs/\Zbw rs=ls/\∀b,(b=gm\/∃d∈ds,b=d.2.1)->b≠gl/\∀r∈rs,b≠r.1
theorem Zo6(am al at':Option Addr)(cm cl ct:Nat)(ms:List Mk)(ls:List (List Int))(m:Mk)(most:Int)(w:World)(hm:Zo w am ms)(hl:ZS w al ls)(ha:Zy w at' m.2)(hal:m.2.length<=1048576)(hw:Zax ms ls=true):
 Calls Tryz.prog 164 #[.agg #[.slice am ms.length cm,.slice al ls.length cl],.agg #[.int .i64 m.1,.slice at' m.2.length ct],.int .i64 most] w fun e w'=>
  (Zt (ms++[m])=false/\e=.returned (.tuple #[.agg #[.slice none 0 0,.slice none 0 0],.bool false])/\Below w.heap.size w w')\/
  (Zt (ms++[m])=true/\∃gm cm' gl cl',e=.returned (.tuple #[.agg #[.slice (some ⟨gm,0,none⟩) (ms.length+1) cm',.slice (some ⟨gl,0,none⟩) (ls.length+1) cl'],.bool true])/\Zo5 w.heap.size w' gm cm' gl cl' (ms++[m]) (ZcY ms ls (Zcg ms m.2 most) m.1)/\Below w.heap.size w w'):=by
 obtain⟨i0,cJ,cH,d8,cM⟩:=info_parts Tryz.info2
 obtain⟨j0,em,dI,e5,e7⟩:=info_parts Tryz.infoL
 obtain⟨m0,ei,ev,e8,e6⟩:=info_parts Tryz.info161
 obtain⟨dK,h4,cT,dp⟩:=ZaW hw
 obtain⟨W1,b4⟩:∃W,w.alloc (.cells #[.slice am ms.length cm,.slice al ls.length cl] 158)=W:=⟨_,rfl⟩
 obtain⟨W2,bq⟩:∃W,W1.alloc (.cells #[.int .i64 m.1,.slice at' m.2.length ct] 161)=W:=⟨_,rfl⟩
 obtain⟨W,hW⟩:∃W,W2.alloc (.cells #[.slice none 0 0,.slice none 0 0] 158)=W:=⟨_,rfl⟩
 have s1:=salZ b4
 have s2:W2.heap.size=w.heap.size+1+1:=by rw [<-bq];simp [s1]
 have s3:W.heap.size=w.heap.size+1+1+1:=by rw [<-hW];simp [s2]
 have b1:=balZ b4
 have b2:=balZ bq
 have b3:=balZ hW
 have hB:Below w.heap.size w W:=Zb (Zb b1 b2) b3
 have hI:Zac W w.heap.size am cm ms al cl ls:=(show Zac W1 w.heap.size am cm ms al cl ls by rw [<-b4];exact Zac.box hm hl).below (Zb b2 b3)
 have t2:W.heap[w.heap.size+1]? =some (.cells #[.int .i64 m.1,.slice at' m.2.length ct] 161):=(b3.block _ (by omega)).trans (by rw [<-bq,<-s1];exact heap_alloc_new W1 _)
 have t3:=nal2Z hW s2
 have HI:=Za hI
 have HB:=Za hB
 have HA:=Za (Zy.next ha hB)
 have HT:=Za (And.intro t2 t3)
 have k0:=hI.c0
 have k1:=hI.c1
 have HW:=Za hw
 have HC:=Za (Zl9 am al cm cl ms ls W hI.mv hI.cv dK h4 cT dp)
 clear hm hl ha hB hI b1 b2 b3 t2 t3 hw h4 dp
 go_enter Tryz.func164,Tryz.ntmps164
 go_wp2_with fail
 refine HC.out.mono ?_
 rintro e w3 ⟨gm,ah,ds,v,z,O,rfl,hrow,dl,ab,ak,fI,cx,eh,eY,L3⟩
 obtain⟨av,G,rfl⟩:∃av G,v=.slice av z.length G:=by
  rcases ab with ⟨E,Q⟩ | ⟨g,c,E,-⟩
  · exact⟨none,0,by rw [E,Q];rfl⟩
  · exact⟨_,_,E⟩
 have b0:z.length=ls.length:=by have:=congrArg List.length ak;simpa [Zbw] using this
 obtain⟨F,aR⟩:∃F,w3.alloc (.cells #[.slice (some ⟨gm,0,none⟩) ms.length ah,.slice av z.length G] 158)=F:=⟨_,rfl⟩
 have L4:=balZ aR
 have s4:=salZ aR
 have z3:=L3.size
 have bt:Hid (F.heap[w3.heap.size]? =some (.cells #[.slice (some ⟨gm,0,none⟩) ms.length ah,.slice av z.length G] 158)):=by show _=_;rw [<-aR];exact heap_alloc_new w3 _
 have cB:=Za (hrow.kept (r:=none) ⟨L4.os,L4.tape,L4.output,L4.size,fun i hi _=>L4.block i hi⟩ (by simp))
 have dm:=Za (ab.same (w':=F) (fun j _ V=>L4.block j V))
 have bb:Hid (∀i,Zgf (.slice av z.length G) z i->O<=i/\i<w3.heap.size):=fun i hi=>Zdl ab hi
 have dc:=Za dl
 have dS:=Za ak
 have c5:=Za cx
 have aa:=Za (Zb L3 L4)
 have fF:=Za (HI.out.below aa.out)
 have dg:=Za aR
 have az:=Za b0
 obtain⟨d7,df,-,-⟩:=ZV (show F.heap[w.heap.size+1]? =_ from (aa.out.block _ (by omega)).trans HT.out.1)
 obtain⟨a,b6⟩:∃n,w3.heap.size=n:=⟨_,rfl⟩
 have ek:=Za (Zy.next HA.out aa.out)
 have eF:=hrow.lt
 clear hrow dl ab ak cx L3 L4 b0 aR HC k0 k1 hW b4 bq
 go_wp2_with fail
 rw [dg.out]
 have cU:=ZV bt.out
 obtain⟨o0,o1,of,-⟩:=cU
 rw [b6] at o0 o1 of bt bb s4
 try rw [b6]
 have fE:=Za b6
 have eO:W.heap.size<=a:=by omega
 have fh:gm<a:=by omega
 have eC:O<=a:=by omega
 clear b6 dg
 have aj:Hid (∀k:World,(∀j,j<a+1->k.heap[j]? =F.heap[j]?)->k.cell? ⟨a,0,none⟩=some (.slice (some ⟨gm,0,none⟩) ms.length ah)/\k.cell? ⟨w.heap.size+1,0,none⟩=some (.int .i64 m.1)/\k.cell? ⟨w.heap.size+1,1,none⟩=some (.slice at' m.2.length ct)):=fun k h=>⟨(World.cell?_of_block (h a (by omega))).trans o0,(World.cell?_of_block (h (w.heap.size+1) (by omega))).trans d7,(World.cell?_of_block (h (w.heap.size+1) (by omega))).trans df⟩
 refine Zao (S:=fun k=>k.cell? ⟨a,0,none⟩=some (.slice (some ⟨gm,0,none⟩) ms.length ah)/\k.cell? ⟨w.heap.size+1,0,none⟩=some (.int .i64 m.1)/\k.cell? ⟨w.heap.size+1,1,none⟩=some (.slice at' m.2.length ct)) (fuel:=6)
  [0,1,2,3,5,6] _ rfl (by kernel_rfl) (by kernel_rfl) (by kernel_rfl) (by kernel_rfl) (by kernel_rfl) (by kernel_rfl) (by kernel_rfl) (aj.out _ (fun j _=>rfl)) (fun _=>?_)
 iterate 6 (refine⟨_,rfl,?_⟩;apply Exists.intro;refine⟨Or.inl ⟨by rfl,fun w' an=>?_⟩,?_⟩;(focus (obtain⟨e1,e2,e3⟩:=an;go_simp<;>with_reducible rfl));simp only [Act.put,List.setIfInBounds_toArray])
 refine Zc 4 (by kernel_rfl) rfl (fun K B=>?_)
 go_simp
 obtain⟨w5,aA⟩:∃w5,(F.alloc (.cells #[] 2)).drew=w5:=⟨_,rfl⟩
 have b9:Hid (Below F.heap.size F w5):=by show Below _ _ _;rw [<-aA];exact ((Below.refl F.heap.size F).alloc (Nat.le_refl _) _).drew
 have cD:Hid (Row W.heap.size w5 F.heap.size 0 []):=by show Row _ _ _ _ _;rw [<-aA];exact Row.start F W.heap.size (by omega)
 have fj:w5.heap.size=F.heap.size+1:=by rw [<-aA];simp
 try rw [<-s4]
 rw [aA]
 clear aA
 refine B.out _ _ (aj.out _ (fun j V=>b9.out.block j (by omega))) (fun _=>?_)
 clear B K
 refine Zc 7 (by kernel_rfl) rfl (fun K B=>?_)
 refine Zj w5 rfl (.tmp 19) (.tmp 21) 31 rfl W.heap.size 2 i0 _ 1 8 Tryz.underlying31 cJ cH d8 cM rfl (by omega) F.heap.size 0 0 [] rfl cD.out at' m.2.length ct (m.2.map (Value.int .i64)) rfl (Z9 (Zy.next ek.out b9.out)) (by unfold maxLen;omega) (by omega) (by omega) w5.heap.size rfl ?_
 intro g6 c6 w6 aB X dy eD
 have bc:Hid (Row W.heap.size w6 g6 c6 m.2):=Zbl aB rfl
 have fH:=X.size
 have b7:Hid (Below F.heap.size F w6):=b9.out.grown X (by omega) (by intro q hq;cases hq;omega)
 have eM:F.heap.size<=g6:=by rcases dy with e | e <;> omega
 clear aB X
 refine B.out _ _ (aj.out _ (fun j V=>b7.out.block j (by omega))) (fun _=>?_)
 clear B K
 refine Zc 8 (by kernel_rfl) rfl (fun K B=>?_)
 go_simp
 refine B.out _ _ (aj.out _ (fun j V=>b7.out.block j (by omega))) (fun _=>?_)
 clear B K
 refine Zc 9 (by kernel_rfl) rfl (fun K B=>?_)
 go_simp
 obtain⟨w7,aM⟩:∃w7,w6.alloc (.cells #[.int .i64 m.1,.slice (some ⟨g6,0,none⟩) m.2.length c6] 161)=w7:=⟨_,rfl⟩
 have da:Hid (w7.heap[w6.heap.size]? =some (.cells #[.int .i64 m.1,.slice (some ⟨g6,0,none⟩) m.2.length c6] 161 (0,0))):=by show _=_;rw [<-aM];exact heap_alloc_new w6 _
 have bP:=balZ aM
 have fP:=salZ aM
 have N:=Za (Zb b7.out bP)
 have cL:=Za (bc.out.next bP bc.out.lt2.2)
 have fC:=bc.out.lt2
 have ce:=Za (cB.out.kept (r:=none) ⟨N.out.os,N.out.tape,N.out.output,N.out.size,fun i hi _=>N.out.block i hi⟩ (by simp))
 have cQ:ds.length=ms.length:=by have:=congrArg List.length dc.out;simpa [Zs] using this
 have cS:=Za cQ
 try rw [Nat.zero_add]
 try rw [aM]
 clear aM bP cQ
 refine B.out _ _ (aj.out _ (fun j V=>N.out.block j (by omega))) (fun _=>?_)
 clear B K
 refine Zc 10 (by kernel_rfl) rfl (fun K B=>?_)
 refine Zj w7 rfl (.tmp 16) (.tmp 24) 36 rfl W.heap.size 161 m0 _ 2 32 Tryz.underlying36 ei ev e8 e6 rfl (by omega) gm ms.length ah (ZG ds) rfl (by have h:=ce.out.1;rw [cS.out] at h;exact h) (some ⟨w6.heap.size,0,none⟩) 1 1 [.int .i64 m.1,.slice (some ⟨g6,0,none⟩) m.2.length c6] rfl (Zem da.out) (by unfold maxLen;omega) (by omega) (by omega) w7.heap.size rfl ?_
 intro Y c8 w8 aJ o bv f6
 have aF:Hid (Z2 W.heap.size w8 Y c8 (ds++[(m.1,g6,c6,m.2)])):=Z2.snoc ce.out cL.out (by omega) (fun d hd=>by
  have E:=c5.out d hd
  omega) (by rw [cS.out];exact aJ) o (by rcases bv with e | e;exact Or.inl e.symm;exact Or.inr e)
 have a9:Hid (∀j,j<F.heap.size->j≠gm->w8.heap[j]? =F.heap[j]?):=fun j V eA=>(o.block j (by omega) (by simp;exact eA)).trans (N.out.block j V)
 have aY:Hid (w8.os=F.os/\w8.tape=F.tape/\w8.output=F.output):=⟨o.os.trans N.out.os,o.tape.trans N.out.tape,o.output.trans N.out.output⟩
 have fe:=o.size
 have ex:Y=gm\/a+1<=Y:=by rcases bv with e | e;exact Or.inl e.symm;exact Or.inr (by omega)
 have cb:Hid (w8.cell? ⟨a,0,none⟩=some (.slice (some ⟨gm,0,none⟩) ms.length ah)/\w8.cell? ⟨w.heap.size+1,0,none⟩=some (.int .i64 m.1)/\w8.cell? ⟨w.heap.size+1,1,none⟩=some (.slice at' m.2.length ct)):=⟨(World.cell?_of_block (a9.out a (by omega) (by omega))).trans o0,(World.cell?_of_block (a9.out (w.heap.size+1) (by omega) (by omega))).trans d7,(World.cell?_of_block (a9.out (w.heap.size+1) (by omega) (by omega))).trans df⟩
 clear aJ o
 refine B.out _ _ cb.out (fun _=>?_)
 clear B K
 refine Zc 11 (by kernel_rfl) rfl (fun K B=>?_)
 go_simp
 refine B.out _ _ cb.out (fun _=>?_)
 clear B K
 refine wpAnyH_done (by kernel_rfl) ?_ _
 simp only [Exit.then]
 have t8:=(a9.out a (by omega) (by omega)).trans bt.out
 obtain⟨u0,u1,uf,uO⟩:=ZV t8
 have fv:=uf 0
 obtain⟨I,a6⟩:∃I,w8.setCell ⟨a,0,none⟩ (.slice (some ⟨Y,0,none⟩) (ms.length+1) c8)=I:=⟨_,rfl⟩
 have db:Hid (I.heap[a]? =some (.cells #[.slice (some ⟨Y,0,none⟩) (ms.length+1) c8,.slice av z.length G] 158)):=by show _=_;rw [<-a6];exact (Zg0 t8).1
 have aQ:∀j,j≠a->I.heap[j]? =w8.heap[j]? :=fun j V=>by rw [<-a6];exact Below.heap_setCell w8 ⟨a,0,none⟩ _ j (fun e=>V e)
 have fp:I.heap.size=w8.heap.size:=by rw [<-a6];simp [World.setCell]
 have ac:Hid (Z2 W.heap.size I Y c8 (ds++[(m.1,g6,c6,m.2)])):=⟨Zaz aF.out.1 (aQ Y (by omega)),fun d hd=>⟨(aF.out.2.1 d hd).1.same (aQ d.2.1 (by
  rcases List.mem_append.1 hd with h | h
  · have:=c5.out d h;omega
  · simp at h;rw [h];show g6≠a;omega)),(aF.out.2.1 d hd).2⟩,aF.out.2.2⟩
 have eu:Hid (Zbs O I (.slice av z.length G) z):=ZcL dm.out (fun j V=>by
  have h:=bb.out j V
  exact (aQ j (by omega)).trans (a9.out j (by omega) (by omega)))
 have U:Hid (Below W.heap.size W I):=⟨by rw [<-a6];exact aY.out.1.trans aa.out.os,by rw [<-a6];exact aY.out.2.1.trans aa.out.tape,by rw [<-a6];exact aY.out.2.2.trans aa.out.output,by omega,fun j V=>(aQ j (by omega)).trans ((a9.out j (by omega) (by omega)).trans (aa.out.block j V))⟩
 have bz:Hid (Zs (ds++[(m.1,g6,c6,m.2)])=ms++[m]):=by show _=_;rw [Zs,List.map_append,<-Zs,dc.out];rfl
 have bj:Hid ((Y<O\/a+1<=Y/\Y<I.heap.size)/\∀d∈(ds++[(m.1,g6,c6,m.2)]),d.2.1<O\/a+1<=d.2.1/\d.2.1<I.heap.size):=⟨by rcases ex with e | e;exact Or.inl (by omega);exact Or.inr ⟨e,by omega⟩,fun d hd=>by
  rcases List.mem_append.1 hd with h | h
  · exact Or.inl (c5.out d h)
  · simp at h;rw [h];right;show a+1<=g6/\g6<_;omega⟩
 have eb:=Za a6
 clear aj b9 cD b7 bc N cL ce da aF a9 aY cb t8 aQ cB dm bt a6 uf
 go_wp2_with fail
 try rw [eb.out]
 refine NoPanic.normal ?_
 have cR:Hid (Zo I (some ⟨Y,0,none⟩) (ms++[m])):=by show Zo _ _ _;rw [<-bz.out];exact ac.out.view
 have dq:Hid ((ms++[m]).length=ms.length+1):=by show _=_;simp
 have ai:=Za (Zg2 (some ⟨Y,0,none⟩) c8 (ms++[m]) I cR.out ⟨by rw [dq.out];omega,fun i=>by
  rcases Nat.lt_trichotomy i ms.length with h | h | h
  · rw [ZhQ h];have:=(ZaW HW.out).2.1 i;omega
  · rw [h,ZhR];omega
  · have:mat (ms++[m]) i=[]:=by simp [mat,List.getD,show ms.length+1<=i by omega]
    rw [this];simp⟩)
 rw [dq.out] at ai
 obtain⟨x0,x1,-,-⟩:=ZV db.out
 rcases hmk:Zt (ms++[m]) with _ | _
 · rw [hmk] at ai
   have fn:W.heap.size=w.heap.size+1+1+1:=s3
   have y2:=(U.out.block (w.heap.size+1+1) (by omega)).trans HT.out.2
   obtain⟨y0,y1,yf,-⟩:=ZV y2
   have fd:=yf 0
   have bZ:=yf 1
   clear yf y2
   go_wp2_with fail
   refine ai.out.mono ?_
   rintro e wa ⟨rfl,na,rfl⟩
   go_wp2_with fail
   refine bodyPost_ret (v:=.tuple #[.agg #[.slice none 0 0,.slice none 0 0],.bool false]) (by simp [results,Tryz.results164,go_sem,y0,y1]) rfl ?_
   left
   refine⟨by trivial,rfl,?_⟩
   exact ((below_drewN (Zb HB.out U.out) na).setCell (by show w.heap.size<=w.heap.size+1+1;omega) _).setCell (by show w.heap.size<=w.heap.size+1+1;omega) _
 rw [hmk] at ai
 go_wp2_with fail
 refine ai.out.mono ?_
 rintro e wa ⟨rfl,na,d6⟩
 have aq:Hid (Below I.heap.size I wa):=by show Below _ _ _;rw [d6];exact below_drewN (Below.refl _ _) na
 have bX:=HI.out.below (Zb U.out aq.out)
 have p0:=bX.c0
 obtain⟨fx,fr,-,-⟩:=ZV ((aq.out.block (w.heap.size+1) (by omega)).trans ((U.out.block (w.heap.size+1) (by omega)).trans HT.out.1))
 have dJ:=Za (sNear am at' cm ct ms m.2 most wa bX.mv (Zy.next HA.out (Zb U.out aq.out)) ⟨by omega,fun i=>by have:=(ZaW HW.out).2.1 i;omega⟩ hal)
 clear d6 bX ai
 go_wp2_with fail
 refine dJ.out.mono ?_
 rintro e wb ⟨gh,ch,rfl,ad,Lb⟩
 obtain⟨wc,bu⟩:∃wc,wb.alloc (.cells #[] 2)=wc:=⟨_,rfl⟩
 have Lc:=balZ bu
 have dQ:=salZ bu
 have C:=Za (Zb aq.out (Zb Lb Lc))
 have cE:=Za (ad.below (Nat.le_refl _) Lc)
 have aG:Hid (Row I.heap.size wc wb.heap.size 0 []):=by show Row _ _ _ _ _;rw [<-bu];exact Row.start wb I.heap.size (by have:=aq.out.size;have:=Lb.size;omega)
 have fD:=aq.out.size
 have fq:=Lb.size
 have fc:=ad.lt
 have fl:gh≠wb.heap.size:=by omega
 clear Lb Lc ad
 go_wp2_with fail
 try rw [bu]
 obtain⟨y,aZ⟩:∃y,Zav ms m.2 most=y:=⟨_,rfl⟩
 have aP:Hid (Zcg ms m.2 most=y.map (fun h=>h.1)):=by show _=_;rw [Zcg,aZ]
 have fz:y.length<=60:=by rw [<-aZ];exact Zfu ms m.2 most
 rw [aZ] at cE
 rw [aZ]
 have dd:Hid ((y.map (fun h=>h.1)).Nodup):=by show List.Nodup _;rw [<-aP.out];exact ZeL (ZY HW.out) m.2 most
 have er:Hid (∀i,i<y.length->0<=ZC ms (Zx y i).1):=fun i hi=>ZcM (ZY HW.out) _ (by rw [aP.out];exact List.mem_map.2 ⟨Zx y i,ZhS hi,rfl⟩)
 have bR:=Za (Zco HW.out)
 have ew:Hid (∀i,nth (y.map (fun h=>h.1)) i=(Zx y i).1\/y.length<=i):=fun i=>by
  rcases Nat.lt_or_ge i y.length with h | h
  · left;simp [nth,Zx,List.getD,h]
  · exact Or.inr h
 have eL:wc.heap.size=wb.heap.size+1:=dQ
 have cP:Hid (a+1<=I.heap.size/\I.heap.size<=wb.heap.size):=⟨by omega,by omega⟩
 have d9:=Za (ZcL eu.out (w':=wc) (fun j V=>C.out.block j (by have:=bb.out j V;omega)))
 go_loopw [10,11] (fun vo vi wr=>∃(i Z co:Nat) (f:List Rw),i<=y.length/\vi=.int .i64 i/\vo=.slice (some ⟨Z,0,none⟩) (((y.map (fun h=>h.1)).take i).foldl ZaA []).length co/\Row I.heap.size wr Z co (((y.map (fun h=>h.1)).take i).foldl ZaA [])/\f.length=z.length/\Zbs O wr (.slice av z.length G) f/\Zbw f=Zfv ms ls ((y.map (fun h=>h.1)).take i) m.1/\(∀b,Zgf (.slice av z.length G) f b->O<=b/\(b<a\/wc.heap.size<=b)/\b≠Z)/\(∀j,j<wc.heap.size->(j<O\/a<=j)->wr.heap[j]? =wc.heap[j]?)/\wr.os=wc.os/\wr.tape=wc.tape/\wr.output=wc.output/\wc.heap.size<=wr.heap.size) (fun _ vi _=>y.length-(intOf vi).toNat)
 case atStart=>exact⟨0,_,0,z,Nat.zero_le _,rfl,rfl,aG.out,rfl,d9.out,by rw [List.take_zero,Zmg bR.out];exact dS.out,fun b R=>by have E:=bb.out b R;have Q:=cP.out;exact⟨by omega,by omega,by omega⟩,fun _ _ _=>rfl,rfl,rfl,rfl,Nat.le_refl _⟩
 case round=>
  clear d9 aG
  obtain⟨i,Z,co,f,hi,rfl,rfl,bm,bH,ab,ak,d3,bS,c9,bW,cd,fQ⟩:=hrel
  have eU:=cP.out
  obtain⟨u,a3⟩:∃u,((y.map (fun h=>h.1)).take i).foldl ZaA []=u:=⟨_,rfl⟩
  have eT:u.length<=60:=by
   rw [<-a3]
   have:=Zfw ((y.map (fun h=>h.1)).take i) []
   simp at this
   simp
   omega
  rw [a3] at bm
  rw [a3]
  have bE:=Za a3
  have aG:=Za bm
  have a8:=Za ab
  have aN:=Za ak
  have s:=Za d3
  have aH:=Za bS
  have M:=Za bH
  have dY:Hid (wr.os=wc.os/\wr.tape=wc.tape/\wr.output=wc.output):=⟨c9,bW,cd⟩
  have dn:=bm.lt2
  have cA:Below W.heap.size W wr:=⟨c9.trans (C.out.os.trans U.out.os),bW.trans (C.out.tape.trans U.out.tape),cd.trans (C.out.output.trans U.out.output),by have:=U.out.size;have:=C.out.size;omega,fun j V=>(bS j (by omega) (by omega)).trans ((C.out.block j (by omega)).trans (U.out.block j V))⟩
  have aL:=Za cA
  clear a3 bm ab ak d3 bS bH c9 bW cd cA
  by_cases hlt:i<y.length
  · have bO:=er.out i hlt
    obtain⟨aK,bh,bl⟩:=Zab bO
    have dx:wr.cell? ⟨gh,i*2,none⟩=some (.int .i64 (Zx y i).1):=by
     have h:=(cE.out.seg i hlt).1
     rw [Nat.zero_add] at h
     exact (World.cell?_of_block (aH.out gh (by omega) (by omega))).trans h
    have bf:Hid (nth (y.map (fun h=>h.1)) i=(Zx y i).1):=by rcases ew.out i with h | h;exact h;omega
    obtain⟨x,hx⟩:∃x,(Zx y i).1=x:=⟨_,rfl⟩
    rw [hx] at bO aK bh bl dx bf
    obtain⟨j,V⟩:∃j,ZD ms x=j:=⟨_,rfl⟩
    rw [V] at aK bh bl
    have cz:=Za bl
    have eJ:=n0Z i
    have f9:(i:Int)<(y.length:Int):=by omega
    have HP:=Za (sPutI I.heap.size Z co u x wr aG.out (by omega) (by omega))
    have aw:Hid (((y.map (fun h=>h.1)).take (i+1)).foldl ZaA []=ZaA u x):=by
     show _=_
     rw [List.take_add_one,List.foldl_append,bE.out]
     have e:(y.map (fun h=>h.1))[i]?.toList=[x]:=by
      have h:=bf.out
      simp [nth,List.getD,hlt] at h
      simp [hlt,h]
     rw [e]
     rfl
    have ea:=Za bh
    clear bO V hx bh bl
    go_wp2_with fail
    refine HP.out.mono ?_
    rintro e w1 ⟨J,d0,rfl,au,L1,c3⟩
    have fy:=L1.size
    have dh:=Za au
    have be:=Za L1
    have bU:=Za (fun k (L':Below w1.heap.size w1 k)=>Zgo am cm ms x k (HI.out.below (Zb aL.out (Zb be.out L'))).mv (by omega))
    rw [<-ea.out] at bU
    have cO:Hid (∀k,Below w1.heap.size w1 k->k.cell? ⟨w.heap.size,0,none⟩=some (.slice am ms.length cm)/\k.cell? ⟨gh,i*2,none⟩=some (.int .i64 x)):=fun k L'=>⟨(HI.out.below (Zb aL.out (Zb be.out L'))).c0,((Zb be.out L').cell (p:=⟨gh,i*2,none⟩) (by show gh<_;omega)).trans dx⟩
    have br:=Za ((Below.refl w1.heap.size w1).drew)
    have bJ:=au.lt2
    clear au L1 HP
    go_wp2_with fail
    refine Zl (S:=fun k=>Below w1.heap.size w1 k) (fuel:=2) [0,1,2,3,4,5,6] (by kernel_rfl) (by kernel_rfl) (by kernel_rfl) (by kernel_rfl) br.out (fun _=>?_)
    iterate 7 (refine⟨_,rfl,?_⟩;apply Exists.intro;refine⟨Or.inl ⟨by rfl,fun w' an=>?_⟩,?_⟩;(focus (obtain⟨e1,e2⟩:=cO.out w' an;go_simp<;>with_reducible rfl));simp only [Act.put,tkgZ])
    refine Zc 7 (by kernel_rfl) rfl (fun K B=>?_)
    go_simp
    refine (bU.out _ br.out).mono ?_
    rintro e w2 ⟨rfl,cW⟩
    have aC:Hid (Below w1.heap.size w1 w2):=by show Below _ _ _;rw [cW];exact br.out
    clear cW
    refine B.out _ _ aC.out (fun _=>?_)
    clear B K
    refine ZB [8] rfl (by kernel_rfl) (by kernel_rfl) (by kernel_rfl) aC.out ?_
    iterate 1 (refine⟨_,rfl,?_⟩;apply Exists.intro;refine⟨Or.inl ⟨by rfl,fun w' an=>?_⟩,?_⟩;(focus (go_simp<;>with_reducible rfl));simp only [Act.put,tkgZ])
    refine NoPanic.normal (NoPanic.normal ?_)
    have fB:=aC.out.size
    have L:=Za (Zb be.out aC.out)
    have bQ:f.length=ms.length:=by have E:=M.out;have Q:=az.out;have h3:=bR.out;omega
    have cy:=Za (ZcL a8.out (w':=w2) (fun b R=>L.out.block b (Zdl a8.out R).2))
    obtain⟨gl,dZ,D⟩:∃gl,av=some ⟨gl,0,none⟩/\Zba O w2 gl G f:=by
     rcases cy.out with ⟨E,Q⟩ | ⟨g,c,E,Q⟩
     · rw [Q] at bQ;simp at bQ;omega
     · injection E with e1 e2 e3
       subst e1 e3
       exact⟨g,rfl,Q⟩
    subst dZ
    have a5:j<f.length:=by omega
    have fb:=D.row.lt
    have cG:=s.out gl (Or.inl rfl)
    have hrow:(f[j]).2.2=cn ls j:=by
     have h:=congrArg (fun l=>l[j]?) aN.out
     simp only [Zbw,List.getElem?_map,List.getElem?_eq_getElem a5,Option.map_some] at h
     rw [Ze5 aK,(Zgp (ZY HW.out) dd.out (by simpa using hlt) aK (bf.out.trans cz.out.symm) m.1).1] at h
     injection h
    have c7:=Za (D.rows _ (List.getElem_mem a5))
    have ca:=D.row.cell j a5
    have ec:=World.ownsRow.frozenAt D.row j
    have ad:=s.out (f[j]).1 (Or.inr ⟨_,List.getElem_mem a5,rfl⟩)
    have bA:=Za D
    obtain⟨r,hr⟩:∃r,f[j]=r:=⟨_,rfl⟩
    rw [hr] at hrow c7 ca ad
    obtain⟨r1,rc,rx⟩:=r
    simp only at hrow
    subst hrow
    have aX:=Za hr
    have fs:=(ZaW HW.out).2.2.2 j
    have ee:=c7.out.lt
    have bL:=bA.out.off _ (List.getElem_mem a5)
    rw [hr] at bL
    simp only at bL ad ee
    have d2:w2.cell? ⟨gl,j,none⟩=some (.slice (some ⟨r1,0,none⟩) (cn ls j).length rc):=ca
    have el:w2.cell? ⟨a,1,none⟩=some (.slice (some ⟨gl,0,none⟩) z.length G):=(World.cell?_of_block ((L.out.block a (by omega)).trans ((aH.out a (by omega) (by omega)).trans (C.out.block a (by omega))))).trans x1
    have dR:w2.cell? ⟨w.heap.size+1,0,none⟩=some (.int .i64 m.1):=by
     obtain⟨a0,-,-,-⟩:=ZV ((Zb aL.out L.out).block (w.heap.size+1) (by omega) |>.trans HT.out.1)
     exact a0
    have f3:=n0Z j
    have eX:(j:Int)<(z.length:Int):=by have:=M.out;omega
    have bo:Hid (∀k:World,(∀b,(b=a\/b=gl\/b=w.heap.size+1)->k.heap[b]? =w2.heap[b]?)->k.cell? ⟨a,1,none⟩=some (.slice (some ⟨gl,0,none⟩) z.length G)/\k.cell? ⟨gl,j,none⟩=some (.slice (some ⟨r1,0,none⟩) (cn ls j).length rc)/\k.cell? ⟨w.heap.size+1,0,none⟩=some (.int .i64 m.1)):=fun k h=>⟨(World.cell?_of_block (h a (Or.inl rfl))).trans el,(World.cell?_of_block (h gl (Or.inr (Or.inl rfl)))).trans d2,(World.cell?_of_block (h (w.heap.size+1) (Or.inr (Or.inr rfl)))).trans dR⟩
    clear cy D ca hr cO br bU
    go_wp2_with fail
    refine Zao (S:=fun k=>k.cell? ⟨a,1,none⟩=some (.slice (some ⟨gl,0,none⟩) z.length G)/\k.cell? ⟨gl,j,none⟩=some (.slice (some ⟨r1,0,none⟩) (cn ls j).length rc)/\k.cell? ⟨w.heap.size+1,0,none⟩=some (.int .i64 m.1)) (fuel:=3)
     [0,1,2,3,4,5,6,7,8,9] _ rfl (by kernel_rfl) (by kernel_rfl) (by kernel_rfl) (by kernel_rfl) (by kernel_rfl) (by kernel_rfl) (by kernel_rfl) (bo.out _ (fun _ _=>rfl)) (fun _=>?_)
    iterate 10 (refine⟨_,rfl,?_⟩;apply Exists.intro;refine⟨Or.inl ⟨by rfl,fun w' an=>?_⟩,?_⟩;(focus (obtain⟨e1,e2,e3⟩:=an;go_simp<;>with_reducible rfl));simp only [Act.put,List.setIfInBounds_toArray])
    refine Zc 10 (by kernel_rfl) rfl (fun K B=>?_)
    go_simp
    obtain⟨T,P⟩:∃T,(w2.alloc (.cells #[.int .i64 m.1] 2)).drew=T:=⟨_,rfl⟩
    have t:Hid (Below w2.heap.size w2 T):=by show Below _ _ _;rw [<-P];exact ((Below.refl w2.heap.size w2).alloc (Nat.le_refl _) _).drew
    have bi:Hid (T.heap[w2.heap.size]? =some (.cells #[.int .i64 m.1] 2 (0,0))):=by show _=_;rw [<-P];exact heap_alloc_new w2 _
    have e0:T.heap.size=w2.heap.size+1:=by rw [<-P];simp
    rw [P]
    clear P
    refine B.out _ _ (bo.out _ (fun b R=>t.out.block b (by omega))) (fun _=>?_)
    clear B K
    have aW:=Za (bA.out.below t.out)
    have di:=Za (c7.out.below t.out)
    refine Zc 11 (by kernel_rfl) rfl (fun K B=>?_)
    refine Zj T rfl (.tmp 67) (.tmp 70) 31 rfl O 2 i0 _ 1 8 Tryz.underlying31 cJ cH d8 cM rfl (by omega) r1 (cn ls j).length rc ((cn ls j).map (Value.int .i64)) rfl di.out (some ⟨w2.heap.size,0,none⟩) 1 1 [.int .i64 m.1] rfl (Ze6 bi.out) (by unfold maxLen;omega) (by omega) (by omega) T.heap.size rfl ?_
    intro gg cc we aE A bG f2
    have dU:Hid (ZQ O we gg cc (cn ls j++[m.1])):=Row.snoc aE
    have aD:=Za A
    have fo:=A.size
    have bF:Hid (Zba O (we.setCell ⟨gl,j,none⟩ (rwV (gg,cc,cn ls j++[m.1]))) gl G (f.set j (gg,cc,cn ls j++[m.1]))):=aW.out.over14 j a5 dU.out (by rw [aX.out];exact A) (by rw [aX.out];rcases bG with e | e;exact Or.inl e;exact Or.inr (by omega))
    have bY:∀b,(b=a\/b=gl\/b=w.heap.size+1)->we.heap[b]? =w2.heap[b]? :=fun b R=>(A.block b (by omega) (by simp;omega)).trans (t.out.block b (by omega))
    have bg:=Za (bo.out _ bY)
    have dv:=(bY gl (Or.inr (Or.inl rfl)))
    have f4:we.cell? ⟨gl,j,none⟩=some (.slice (some ⟨r1,0,none⟩) (cn ls j).length rc):=bg.out.2.1
    have eB:we.frozen? ⟨gl,j,none⟩=false:=(World.frozen?_of_block dv).trans ec
    clear aE A
    refine B.out _ _ bg.out (fun _=>?_)
    clear B K
    refine Zc 12 (by kernel_rfl) rfl (fun K B=>?_)
    go_simp
    refine B.out _ _ bg.out (fun _=>?_)
    clear B K
    refine wpAnyH_done (by kernel_rfl) ?_ _
    simp only [Exit.then]
    obtain⟨wf,a4⟩:∃wf,we.setCell ⟨gl,j,none⟩ (.slice (some ⟨gg,0,none⟩) ((cn ls j).length+1) cc)=wf:=⟨_,rfl⟩
    have dM:rwV (gg,cc,cn ls j++[m.1])=.slice (some ⟨gg,0,none⟩) ((cn ls j).length+1) cc:=by simp [rwV]
    rw [dM,a4] at bF
    have cg:∀b,b≠gl->wf.heap[b]? =we.heap[b]? :=fun b R=>by rw [<-a4];exact Below.heap_setCell we ⟨gl,j,none⟩ _ b (fun e=>R e)
    have fG:wf.heap.size=we.heap.size:=by rw [<-a4];simp [World.setCell]
    have cK:Hid (Zbw (f.set j (gg,cc,cn ls j++[m.1]))=Zfv ms ls ((y.map (fun h=>h.1)).take (i+1)) m.1):=by
     show _=_
     rw [<-(Zgp (ls:=ls) (ZY HW.out) dd.out (by simpa using hlt) aK (bf.out.trans cz.out.symm) m.1).2,<-aN.out,Zbw,Zbw,List.map_set]
    have dV:Hid (∀b,b≠gl->b≠r1->b<wr.heap.size->wf.heap[b]? =wr.heap[b]?):=fun b E Q h3=>(cg b E).trans ((aD.out.block b (by omega) (by simp;exact Q)).trans ((t.out.block b (by omega)).trans (L.out.block b h3)))
    have cI:Hid (Row I.heap.size wf J d0 (ZaA u x)):=dh.out.same (by
     have cV:J≠gl:=by rcases c3 with e | e;rw [e];exact fun h=>cG.2.2 h.symm;have:=(Zdl a8.out (Or.inl rfl:Zgf (.slice (some ⟨gl,0,none⟩) z.length G) f gl)).2;omega
     have cZ:J≠r1:=by rcases c3 with e | e;rw [e];exact fun h=>ad.2.2 h.symm;have:=(Zdl a8.out (Or.inr ⟨_,List.getElem_mem a5,by rw [aX.out]⟩:Zgf (.slice (some ⟨gl,0,none⟩) z.length G) f r1)).2;omega
     exact (cg J cV).trans ((aD.out.block J (by omega) (by simp;exact cZ)).trans ((t.out.block J (by omega)).trans (aC.out.block J bJ.2))))
    have dz:Hid (∀b,Zgf (.slice (some ⟨gl,0,none⟩) z.length G) (f.set j (gg,cc,cn ls j++[m.1])) b->O<=b/\(b<a\/wc.heap.size<=b)/\b≠J):=fun b R=>by
     have aI:Zgf (.slice (some ⟨gl,0,none⟩) z.length G) f b->O<=b/\(b<a\/wc.heap.size<=b)/\b≠J:=fun h=>by
      have E:=s.out b h
      have Q:=(Zdl a8.out h).2
      refine⟨E.1,E.2.1,?_⟩
      rcases c3 with e | e
      · rw [e];exact E.2.2
      · omega
     rcases R with e | ⟨q,hq,rfl⟩
     · exact aI (Or.inl e)
     · rcases List.mem_or_eq_of_mem_set hq with h | h
       · exact aI (Or.inr ⟨q,h,rfl⟩)
       · rw [h]
         show O<=gg/\(gg<a\/wc.heap.size<=gg)/\gg≠J
         rcases bG with e | e
         · have du:q.1=r1:=by rw [h];exact e.symm
           have h3:=aI (Or.inr ⟨_,List.getElem_mem a5,by rw [aX.out];exact du⟩)
           rw [du] at h3
           rw [<-e];exact h3
         · have:=bJ.2;exact⟨by omega,by omega,by omega⟩
    have aO:Hid (wf.os=wc.os/\wf.tape=wc.tape/\wf.output=wc.output):=by
     have ho:=dY.out
     refine⟨?_,?_,?_⟩
     · rw [<-a4];exact aD.out.os.trans (t.out.os.trans (L.out.os.trans ho.1))
     · rw [<-a4];exact aD.out.tape.trans (t.out.tape.trans (L.out.tape.trans ho.2.1))
     · rw [<-a4];exact aD.out.output.trans (t.out.output.trans (L.out.output.trans ho.2.2))
    have ez:=Za a4
    clear bY dv a4 cg bo bg
    go_wp2_with fail
    try rw [ez.out]
    refine NoPanic.normal ?_
    go_wp2_with fail
    go_roundw
    case rel=>exact⟨i+1,J,d0,f.set j (gg,cc,cn ls j++[m.1]),by omega,by go_num,by rw [aw.out],by rw [aw.out];exact cI.out,by rw [List.length_set];exact M.out,Or.inr ⟨gl,G,by rw [List.length_set,M.out],bF.out⟩,cK.out,dz.out,fun b E Q=>(dV.out b (by omega) (by omega) (by omega)).trans (aH.out b E Q),aO.out.1,aO.out.2.1,aO.out.2.2,by omega⟩
    case measure=>simp [intOf];omega
  · skip
    have e1:i=y.length:=by omega
    have dw:Hid ((y.map (fun h=>h.1)).take i=y.map (fun h=>h.1)):=by show _=_;rw [e1];exact List.take_of_length_le (by simp)
    have d4:Hid (Zbw f=Zfv ms ls (y.map (fun h=>h.1)) m.1):=by have h:=aN.out;rw [dw.out] at h;exact h
    have cC:Hid (u=ZcZ (y.map (fun h=>h.1))):=by have h:=bE.out;rw [dw.out] at h;exact h.symm
    have bQ:f.length=ms.length:=by have E:=M.out;have Q:=az.out;have h3:=bR.out;omega
    obtain⟨y0,y1,yf,-⟩:=ZV ((aH.out a (by omega) (by omega)).trans ((C.out.block a (by omega)).trans db.out))
    have GA:=World.grownBy_alloc wr (.cells #[.slice (some ⟨Z,0,none⟩) u.length co] 31) none
    obtain⟨T,P⟩:∃T,wr.alloc (.cells #[.slice (some ⟨Z,0,none⟩) u.length co] 31)=T:=⟨_,rfl⟩
    have e0:=salZ P
    have t:Hid (Below wr.heap.size wr T):=by show Below _ _ _;rw [<-P];exact (Below.refl _ _).alloc (Nat.le_refl _) _
    have bi:Hid (T.heap[wr.heap.size]? =some (.cells #[rwV (Z,co,u)] 31 (0,0))):=by show _=_;rw [<-P];exact heap_alloc_new wr _
    have aW:=Za (ZcL a8.out (w':=T) (fun b R=>t.out.block b (Zdl a8.out R).2))
    have dk:=Za (aG.out.next t.out dn.2)
    have z0:=(t.out.cell (p:=⟨a,0,none⟩) (by show a<_;omega)).trans y0
    have z1:=(t.out.cell (p:=⟨a,1,none⟩) (by show a<_;omega)).trans y1
    have dj:Hid (T.ownsRow O 31 1 (.slice av z.length G) z.length (f.map rwV)):=by have h:=aW.out.owns;rw [M.out] at h;exact h
    clear GA
    have eW:W.heap.size<=O:=eh
    obtain⟨v0,v1,vf,-⟩:=ZV ((t.out.block (w.heap.size+1+1) (by omega)).trans ((aL.out.block (w.heap.size+1+1) (by omega)).trans HT.out.2))
    have eq:=Za P
    have bZ:=yf 1
    have dr:T.frozen? ⟨a,1,none⟩=false:=(World.frozen?_of_block (t.out.block a (by omega))).trans bZ
    have en:Hid (∀k:World,k.heap[a]? =T.heap[a]? ->k.heap[w.heap.size+1+1]? =T.heap[w.heap.size+1+1]? ->(k.cell? ⟨a,0,none⟩=some (.slice (some ⟨Y,0,none⟩) (ms.length+1) c8)/\k.cell? ⟨a,1,none⟩=some (.slice av z.length G)/\k.frozen? ⟨a,1,none⟩=false)/\k.cell? ⟨w.heap.size+1+1,0,none⟩=some (.slice none 0 0)/\k.cell? ⟨w.heap.size+1+1,1,none⟩=some (.slice none 0 0)/\k.frozen? ⟨w.heap.size+1+1,0,none⟩=false/\k.frozen? ⟨w.heap.size+1+1,1,none⟩=false):=fun k E Q=>⟨⟨(World.cell?_of_block E).trans z0,(World.cell?_of_block E).trans z1,(World.frozen?_of_block E).trans dr⟩,(World.cell?_of_block Q).trans v0,(World.cell?_of_block Q).trans v1,(World.frozen?_of_block Q).trans (vf 0),(World.frozen?_of_block Q).trans (vf 1)⟩
    have bd:Hid (∀b,(Value.slice av z.length G).ownBlock=some b->Zgf (.slice av z.length G) f b):=fun b h=>Or.inl h
    clear P v0 v1 vf yf z0 z1 bZ dr
    go_wp2_with (at_builtin;rw [eq.out];refine wpList_append_lies T rfl (.tmp 74) (.tmp 76) 156 rfl O 31 j0 _ 1 24 Tryz.underlying156 em dI e5 e7 rfl (by omega) (.slice av z.length G) z.length (f.map rwV) rfl dj.out ⟨wr.heap.size,0,none⟩ 1 1 [rwV (Z,co,u)] rfl rfl (Zdk bi.out).1 (Zdk bi.out).2 (by omega) (by have:=az.out;unfold maxLen;omega) (by have:=az.out;omega) (by omega) T.heap.size rfl ?_;intro gF cF wF aS H ay eG;have dt:=H.block a (by omega) (fun e=>by have:=(s.out a (bd.out a e.symm)).2.1;omega);have d5:=H.block (w.heap.size+1+1) (by omega) (fun e=>by have:=(s.out _ (bd.out _ e.symm)).1;omega);obtain⟨⟨a0,a1,af⟩,r0,r1,fk,fA⟩:=en.out wF dt d5;have ef:=Za aS;have b8:=Za H;clear dt d5 aS H)
    refine bodyPost_ret (v:=.tuple #[.agg #[.slice (some ⟨Y,0,none⟩) (ms.length+1) c8,.slice (some ⟨gF,0,none⟩) (z.length+1) cF],.bool true]) (by simp [results,Tryz.results164,go_sem,r0,r1]) rfl ?_
    right
    obtain⟨wz,bn⟩:∃wz,((wF.setCell ⟨a,1,none⟩ (.slice (some ⟨gF,0,none⟩) (z.length+1) cF)).setCell ⟨w.heap.size+1+1,0,none⟩ (.slice (some ⟨Y,0,none⟩) (ms.length+1) c8)).setCell ⟨w.heap.size+1+1,1,none⟩ (.slice (some ⟨gF,0,none⟩) (z.length+1) cF)=wz:=⟨_,rfl⟩
    rw [bn]
    have cX:∀b,b≠a->b≠w.heap.size+1+1->wz.heap[b]? =wF.heap[b]? :=fun b E Q=>by
     rw [<-bn,Below.heap_setCell _ ⟨w.heap.size+1+1,1,none⟩ _ b (fun e=>Q e),Below.heap_setCell _ ⟨w.heap.size+1+1,0,none⟩ _ b (fun e=>Q e),Below.heap_setCell _ ⟨a,1,none⟩ _ b (fun e=>E e)]
    have fw:wz.heap.size=wF.heap.size:=by rw [<-bn];simp [World.setCell]
    have fM:=b8.out.size
    have dN:ZQ O T Z co u:=dk.out.mono14 (by omega)
    have cY:Zba O wF gF cF (f++[(Z,co,u)]):=ZhP aW.out (by rw [M.out];simpa using ef.out) b8.out ay dN (fun h=>by
     have:=(s.out Z h).2.2
     exact this rfl)
    have dF:Zba O wz gF cF (f++[(Z,co,u)]):=cY.same (fun b R=>by
     have E:=cY.all b R
     refine cX b (fun e=>?_) (by omega)
     subst e
     rcases R with R | ⟨q,hq,R⟩
     · rcases ay with e | e
       · have:=(s.out gF (Or.inl e)).2.1;omega
       · omega
     · rcases List.mem_append.1 hq with h | h
       · have:=(s.out q.1 (Or.inr ⟨q,h,rfl⟩)).2.1;omega
       · simp at h
         rw [h] at R
         have ff:b=Z:=R
         omega)
    have bM:Zbw (f++[(Z,co,u)])=ZcY ms ls (Zcg ms m.2 most) m.1:=by
     rw [Zbw,List.map_append,<-Zbw,d4.out,aP.out,<-Zmh,cC.out]
     rfl
    have bx:∀b,(b<O\/a+1<=b/\b<I.heap.size)->W.heap.size<=b->wz.heap[b]? =I.heap[b]? :=fun b R fN=>by
     refine (cX b (by omega) (by omega)).trans ((b8.out.block b (by omega) (fun e=>?_)).trans ((t.out.block b (by omega)).trans ((aH.out b (by omega) (by omega)).trans (C.out.block b (by omega)))))
     have:=s.out b (bd.out b e.symm)
     omega
    have dL:Z2 W.heap.size wz Y c8 (ds++[(m.1,g6,c6,m.2)]):=⟨Zaz ac.out.1 (bx Y bj.out.1 ac.out.lt.1),fun d hd=>⟨(ac.out.2.1 d hd).1.same (bx d.2.1 (bj.out.2 d hd) (ac.out.2.1 d hd).1.lt2.1),(ac.out.2.1 d hd).2⟩,ac.out.2.2⟩
    have dH:∀b,(b=Y\/∃d∈(ds++[(m.1,g6,c6,m.2)]),b=d.2.1)->b≠gF/\∀r∈f++[(Z,co,u)],b≠r.1:=fun b R=>by
     have E:b<O\/a+1<=b/\b<I.heap.size:=by
      rcases R with rfl | ⟨d,hd,rfl⟩
      · exact bj.out.1
      · exact bj.out.2 d hd
     refine⟨fun e=>?_,fun r hr e=>?_⟩
     · subst e
       rcases ay with e | e
       · have:=s.out b (Or.inl e);omega
       · omega
     · rcases List.mem_append.1 hr with h | h
       · have:=s.out r.1 (Or.inr ⟨r,h,rfl⟩);omega
       · simp at h
         rw [h] at e
         have e':b=Z:=e
         omega
    have b0:z.length=ls.length:=az.out
    refine⟨by trivial,Y,c8,gF,cF,by rw [b0],⟨_,_,_,_,by omega,by omega,dL,bz.out,dF,bM,dH⟩,?_⟩
    have de:Below w.heap.size w wF:=(Zb HB.out (Zb aL.out t.out)).grown b8.out (by omega) (fun q hq=>by have:=(s.out q (bd.out q hq)).1;omega)
    rw [<-bn]
    exact ((de.setCell (by show w.heap.size<=a;omega) _).setCell (by show w.heap.size<=w.heap.size+1+1;omega) _).setCell (by show w.heap.size<=w.heap.size+1+1;omega) _
theorem Zen{l1 h1 l2 h2 l h:Nat}{w w1 w2:World}(a:GIn l1 h1 w w1)(b:GIn l2 h2 w1 w2)(e1:l<=l1)(e2:l<=l2)(e3:h1<=h)(e4:h2<=h):GIn l h w w2:=
 ⟨b.1.trans a.1,b.2.1.trans a.2.1,b.2.2.1.trans a.2.2.1,Nat.le_trans a.2.2.2.1 b.2.2.2.1,fun i hi hc=>(b.2.2.2.2 i (Nat.lt_of_lt_of_le hi a.2.2.2.1) (by omega)).trans (a.2.2.2.2 i hi (by omega))⟩
theorem Zmi(b hi cap:Nat)(k0:Int)(ms:List Mk)(w:World)(hm:Zbk w b hi ms)(hsm:ZL ms)(h0:1<=k0)(h1:k0<=10000000000):
 Calls Tryz.prog 93 #[.slice (some ⟨b,0,none⟩) ms.length cap,.int .i64 k0] w fun e w'=>e=.returned (.int .i64 (k0+Zb1 ms))/\GIn b hi w w':=by
 obtain⟨K,m⟩:=hsm
 have s:Hid (∀k:Nat,tot (fun j=>(mat ms j).length) (k+1)=tot (fun j=>(mat ms j).length) k+(mat ms k).length):=fun k=>rfl
 have u:Hid (Zb1 ms=ms.length+tot (fun j=>(mat ms j).length) ms.length):=rfl
 go_enter Tryz.func93,Tryz.ntmps93
 go_wp2
 go_loopw [1,5] (fun F i wr=>∃(k:Nat) (c:Int),k<=ms.length/\i=.int .i64 k/\F=.int .i64 c/\1<=c/\c<=10000000000+1048577*(k:Int)/\c=k0+k+(tot (fun j=>(mat ms j).length) k:Nat)/\Zbk wr b hi ms/\GIn b hi w wr) (fun _ i _=>ms.length-(intOf i).toNat)
 case atStart=>exact⟨0,k0,Nat.zero_le _,rfl,rfl,h0,by omega,by simp [tot],hm,GIn.refl _ _ _⟩
 case round=>
  obtain⟨k,c,M,rfl,rfl,G,E,o,l,t⟩:=hrel
  have B:=Za o
  clear o
  by_cases hlt:k<ms.length
  · have f:=l.setId k (.int .i64 c)
    obtain⟨⟨v,c0⟩,-⟩:=l.2.2.2 k hlt
    have L:=l.2.2.1 (k*2)
    obtain⟨-,g,H,z,x,c1,p,a⟩:=f.2.2.2 k hlt
    have C:=Za ((t.grown (ZbI wr b (k*2) (.int .i64 c)) (Nat.le_refl _) l.2.1))
    have D:=Za f
    have y:=Za (Zfx g (c+1) H _ a (by rw [p];exact m k) (by omega) (by omega))
    have I:=Za p
    have h:=Za a
    rw [p] at y
    have A:=m k
    clear l f t a p
    go_wp2_with fail
    refine y.out.mono ?_
    rintro e J ⟨rfl,n,d⟩
    have q:=Za (D.out.marked z h.out d n (by rw [ZE];exact I.out.symm))
    have r:=Za (C.out.grown d (by omega) x)
    clear n d D C y h
    go_wp2_with fail
    go_roundw
    case rel=>exact⟨k+1,c+1+((mat ms k).length:Int),by omega,by go_num,rfl,by omega,by omega,by have:=B.out;have:=s.out k;omega,q.out,r.out⟩
    case measure=>simp [intOf];omega
  · go_wp2
    go_ret
    obtain rfl:k=ms.length:=by omega
    exact⟨ZK (by have:=B.out;have:=u.out;omega),t⟩
theorem Zo7(b hi cap:Nat)(k0:Int)(ls:List (List Int))(w:World)(hm:Zdy w b hi ls)(hsm:Z7 ls)(h0:1<=k0)(h1:k0<=10000000000):
 Calls Tryz.prog 175 #[.slice (some ⟨b,0,none⟩) ls.length cap,.int .i64 k0] w fun e w'=>(∃k1:Int,k0<=k1/\k1<=k0+ZeT ls/\e=.returned (.int .i64 k1))/\GIn b hi w w':=by
 obtain⟨H,f⟩:=hsm
 have p:Hid (∀k:Nat,tot (fun j=>(cn ls j).length) (k+1)=tot (fun j=>(cn ls j).length) k+(cn ls k).length):=fun k=>rfl
 have t:Hid (ZeT ls=ls.length+tot (fun j=>(cn ls j).length) ls.length):=rfl
 go_enter Tryz.func175,Tryz.ntmps175
 go_wp2
 go_loopw [1,5] (fun C i wr=>∃(k:Nat) (k1:Int),k<=ls.length/\i=.int .i64 k/\C=.int .i64 k1/\1<=k1/\k1<=10000000000+1048576*(k:Int)/\k1=k0+(tot (fun j=>(cn ls j).length) k:Nat)/\Zdy wr b hi ls/\GIn b hi w wr) (fun _ i _=>ls.length-(intOf i).toNat)
 case atStart=>exact⟨0,k0,Nat.zero_le _,rfl,rfl,h0,by omega,by simp [tot],hm,GIn.refl _ _ _⟩
 case round=>
  obtain⟨k,k1,I,rfl,rfl,D,B,l,r,q⟩:=hrel
  have s:=Za l
  clear l
  by_cases hlt:k<ls.length
  · obtain⟨g,E,x,u,c1,m,a⟩:=r.2.2 k hlt
    have z:=Za q
    have A:=Za r
    have v:=Za (Zfx g k1 E _ a (by rw [m];exact f k) (by omega) (by omega))
    have F:=Za m
    have d:=Za a
    rw [m] at v
    have y:=f k
    clear r q a m
    go_wp2_with fail
    refine v.out.mono ?_
    rintro e G ⟨rfl,h,c⟩
    have n:=Za (A.out.marked x d.out c h (by rw [ZE];exact F.out.symm))
    have o:=Za (z.out.grown c (by omega) u)
    clear h c A z v d
    go_wp2_with fail
    go_roundw
    case rel=>exact⟨k+1,k1+((cn ls k).length:Int),by omega,by go_num,rfl,by omega,by omega,by have:=s.out;have:=p.out k;omega,n.out,o.out⟩
    case measure=>simp [intOf];omega
  · go_wp2
    go_ret
    obtain rfl:k=ls.length:=by omega
    exact⟨⟨k1,by have:=s.out;omega,by have:=s.out;have:=t.out;omega,rfl⟩,q⟩
def New4(w:World)(b:Nat):Prop:=b<w.heap.size/\∀j,j<8->w.cell? ⟨b,j,none⟩=some (.slice none 0 0)
def emp4:List Wb:=[([],[]),([],[]),([],[]),([],[])]
theorem ZnS(i:Nat):Zi emp4 i=([],[]):=by
 rcases i with _ | _ | _ | _ | i <;> first | rfl | simp [madeCells] | kernel_rfl
theorem Zi6:Z1 emp4:=⟨by decide,fun i=>by rw [ZnS];exact⟨⟨by decide,fun j=>by simp [mat]⟩,by decide,fun j=>by simp [cn]⟩⟩
end Go.Proofs.YtilkaeclgmcolaaGreat
