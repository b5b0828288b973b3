import Derived.Test.YtilkaeclgmcolaaGreatJRwZz
import Derived.Test.YtilkaeclgmcolaaGreatFeHelpZz
import Derived.Test.YtilkaeclgmcolaaGreatTwOkZz
import Derived.Test.YtilkaeclgmcolaaGreatNearZz
import Derived.Lib.SmallJoins
set_option maxRecDepth 100000
set_option maxHeartbeats 4000000
namespace Go.Proofs.YtilkaeclgmcolaaGreat
open Go Go.RowKit Go.Deep
theorem ZgO{H:Type}{enc:TypeId×Value->H}{W:World}{n:Nat}{u:Value}{x:DataW H×List MemPlace}(h:DataW.trod enc Tryz.prog W 0 (fun _=>true) true n 22 [u]=some x):
 ∃(a:Option Addr) (c:Nat) (ms:List Mk),u=.slice a ms.length c/\Zo W a ms/\ms.length<=maxLen/\∀i,(mat ms i).length<=maxLen:=by
 obtain⟨a,len,cap,rfl⟩:∃a len cap,u=.slice a len cap:=by
  rcases open_slice_pairs Tryz.underlying22 Tryz.underlying166 (by kernel_rfl) (by kernel_rfl) (by kernel_rfl) (by kernel_rfl) (by kernel_rfl) h with ⟨hcs,_⟩ | ⟨A,l,c,m,k,V0,V1,D0,D1,P0,P1,hcs,_⟩
  · simp at hcs;exact⟨_,_,_,hcs⟩
  · simp at hcs;exact⟨_,_,_,hcs⟩
 obtain⟨ms,rfl,d,e,b⟩:=Zjx h
 exact⟨a,cap,ms,rfl,d,e,b⟩
theorem Zno{H:Type}{enc:TypeId×Value->H}{W:World}{n:Nat}{u:Value}{x:DataW H×List MemPlace}(h:DataW.trod enc Tryz.prog W 0 (fun _=>true) true n 156 [u]=some x):
 ∃(a:Option Addr) (c:Nat) (ls:List (List Int)),u=.slice a ls.length c/\ZS W a ls/\ls.length<=maxLen/\∀i,(cn ls i).length<=maxLen:=by
 obtain⟨a,len,cap,rfl⟩:∃a len cap,u=.slice a len cap:=by
  rcases open_slice1 Tryz.underlying156 (by kernel_rfl) h with ⟨hcs,_⟩ | ⟨A,l,c,m,k,V,D,P0,hcs,_⟩
  · simp at hcs;exact⟨_,_,_,hcs⟩
  · simp at hcs;exact⟨_,_,_,hcs⟩
 obtain⟨ls,rfl,d,e,b⟩:=Zk7 h
 exact⟨a,cap,ls,rfl,d,e,b⟩
def Znp(ts:List Wb):Prop:=ts.length<=maxLen/\∀i,(Zi ts i).1.length<=maxLen/\(∀j,(mat (Zi ts i).1 j).length<=maxLen)/\(Zi ts i).2.length<=maxLen/\∀j,(cn (Zi ts i).2 j).length<=maxLen
theorem Zlz{H:Type}{enc:TypeId×Value->H}{W:World}{n:Nat}{a:Option Addr}{len cap:Nat}{x:DataW H×List MemPlace}(h:DataW.trod enc Tryz.prog W 0 (fun _=>true) true n 23 [.slice a len cap]=some x):
 ∃ts:List Wb,len=ts.length/\Zp false W a ts/\Znp ts:=by
 rcases open_slice_pairs Tryz.underlying23 Tryz.underlying193 (by kernel_rfl) (by kernel_rfl) (by kernel_rfl) (by kernel_rfl) (by kernel_rfl) h with ⟨hcs,_⟩ | ⟨A,l,c,m,k,V0,V1,D0,D1,P0,P1,hcs,_,hl,hm,hmm,_,hall⟩
 · simp at hcs
   obtain⟨rfl,rfl,rfl⟩:=hcs
   exact⟨[],rfl,Or.inl rfl,Nat.zero_le _,fun i=>by simp [Zi,mat,cn]⟩
 · simp at hcs
   obtain⟨rfl,rfl,rfl⟩:=hcs
   simp at hmm
   subst hmm
   have u:∀i,i<len->∃q:Wb,(∃p r f s,W.cell? (A.add (i*2))=some (.slice p q.1.length r)/\W.cell? (A.add (i*2+1))=some (.slice f q.2.length s)/\Zo W p q.1/\ZS W f q.2)/\q.1.length<=maxLen/\(∀j,(mat q.1 j).length<=maxLen)/\q.2.length<=maxLen/\∀j,(cn q.2 j).length<=maxLen:=by
    intro i d
    obtain⟨w,v,N,C⟩:=hall i (by omega)
    obtain⟨p,r,J,M,D,K,P⟩:=ZgO N
    obtain⟨f,s,O,G,E,L,F⟩:=Zno C
    exact⟨(J,O),⟨p,r,f,s,by rw [w,M],by rw [v,G],D,E⟩,K,P,L,F⟩
   obtain⟨q,y⟩:=choose_lt u
   have g:((List.range len).map q).length=len:=by simp
   have Zx:∀i,i<len->Zi ((List.range len).map q) i=q i:=fun i d=>by simp [Zi,List.getD,d]
   refine⟨(List.range len).map q,g.symm,?_,by rw [g];omega,fun i=>?_⟩
   · rcases Nat.eq_zero_or_pos len with h0 | h0
     · subst h0;exact Or.inl (by simp)
     · obtain⟨b,z,t⟩:=A
       obtain⟨p,r,f,s,B,-⟩:=(y 0 h0).1
       have o:t=none:=by simpa [Addr.add] using World.cell?_spot B
       subst o
       refine Or.inr ⟨b,z,rfl,by simpa [Addr.add] using Zcn B,fun i d=>?_⟩
       rw [g] at d
       rw [Zx i d]
       obtain⟨p,r,f,s,w,v,Q,I⟩:=(y i d).1
       rw [Go.WideShapes.add_plain] at w v
       exact⟨p,r,f,s,w,by rw [Nat.add_assoc];exact v,Q,I,fun h=>by cases h⟩
   · rcases Nat.lt_or_ge i len with d | d
     · rw [Zx i d];exact (y i d).2
     · have e:Zi ((List.range len).map q) i=([],[]):=by simp [Zi,List.getD,d]
       rw [e];simp [mat,cn]
theorem ZjU{H:Type}{enc:TypeId×Value->H}{W:World}{n:Nat}{cs:Array Value}{x:DataW H×List MemPlace}(hs:cs.size=2)(h:DataW.trod enc Tryz.prog W 0 (fun _=>true) true n 25 cs.toList=some x):
 ∃(d:Int) (ts:List Wb) (a:Option Addr) (c:Nat),cs=#[.int .i64 d,.slice a ts.length c]/\Zp false W a ts/\Znp ts:=by
 obtain⟨u,v,rfl⟩:∃u v,cs=#[u,v]:=by
  rcases cs with ⟨l⟩
  match l,hs with
  | [u,v],_=>exact⟨u,v,rfl⟩
 obtain⟨s,j,m,_,r,b,e⟩:=Go.ChangeShapes.trod_struct2 Tryz.underlying25 h
 have q:Tryz.prog.cellsOf 2=1:=by kernel_rfl
 have p:Tryz.prog.cellsOf 23=1:=by kernel_rfl
 simp only [q,p] at b e
 obtain⟨z,g,_,_⟩:=DataW.trod_int Tryz.underlying2 (by simpa using b)
 simp at g
 have f:DataW.trod enc Tryz.prog W 0 (fun _=>true) true m 23 [v]=some j:=by simpa using e
 obtain⟨a,len,cap,rfl⟩:∃a len cap,v=.slice a len cap:=by
  rcases open_slice_pairs Tryz.underlying23 Tryz.underlying193 (by kernel_rfl) (by kernel_rfl) (by kernel_rfl) (by kernel_rfl) (by kernel_rfl) f with ⟨hcs,_⟩ | ⟨A,l,c,m,k,V0,V1,D0,D1,P0,P1,hcs,_⟩
  · simp at hcs;exact⟨_,_,_,hcs⟩
  · simp at hcs;exact⟨_,_,_,hcs⟩
 obtain⟨ts,rfl,o,i⟩:=Zlz f
 exact⟨z,ts,a,cap,by rw [g],o,i⟩
end Go.Proofs.YtilkaeclgmcolaaGreat
namespace Go.Proofs.YtilkaeclgmcolaaGreat
open Go Go.RowKit
structure ZbA(v:Bool)(w:World)(X:Nat)(am aw:Option Addr)(cm cw:Nat)(wd:Int)(ms:List Mk)(d:Int)(ts:List Wb)(nx:Int):Prop where
 lt:X<w.heap.size
 c0:w.cell? ⟨X,0,none⟩=some (.int .i64 wd)
 c1:w.cell? ⟨X,1,none⟩=some (.slice am ms.length cm)
 c2:w.cell? ⟨X,2,none⟩=some (.int .i64 d)
 c3:w.cell? ⟨X,3,none⟩=some (.slice aw ts.length cw)
 c4:w.cell? ⟨X,4,none⟩=some (.int .i64 nx)
 mv:Zo w am ms
 wv:Zp v w aw ts
theorem ZbA.box{v:Bool}{w:World}{am aw:Option Addr}{cm cw:Nat}{wd:Int}{ms:List Mk}{d:Int}{ts:List Wb}{nx:Int}{t:TypeId}(hm:Zo w am ms)(hw:Zp v w aw ts):ZbA v (w.alloc (.cells #[.int .i64 wd,.slice am ms.length cm,.int .i64 d,.slice aw ts.length cw,.int .i64 nx] t)) w.heap.size am aw cm cw wd ms d ts nx:=
 ⟨by simp,by simp,by simp,by simp,by simp,by simp,hm.next ((Below.refl _ _).alloc (Nat.le_refl _) _),hw.next ((Below.refl _ _).alloc (Nat.le_refl _) _)⟩
theorem ZbA.below{v:Bool}{w w':World}{X:Nat}{am aw:Option Addr}{cm cw:Nat}{wd:Int}{ms:List Mk}{d:Int}{ts:List Wb}{nx:Int}(h:ZbA v w X am aw cm cw wd ms d ts nx)(L:Below w.heap.size w w'):ZbA v w' X am aw cm cw wd ms d ts nx:=
 ⟨Nat.lt_of_lt_of_le h.lt L.size,(L.cell (p:=⟨X,0,none⟩) h.lt).trans h.c0,(L.cell (p:=⟨X,1,none⟩) h.lt).trans h.c1,(L.cell (p:=⟨X,2,none⟩) h.lt).trans h.c2,(L.cell (p:=⟨X,3,none⟩) h.lt).trans h.c3,(L.cell (p:=⟨X,4,none⟩) h.lt).trans h.c4,h.mv.next L,h.wv.next L⟩
theorem Zp.web{s:Bool}{w:World}{aw:Option Addr}{ts:List Wb}(h:Zp s w aw ts){n:Nat}(hn:n<ts.length):∃b off am cm al cl,aw=some ⟨b,off,none⟩/\b<w.heap.size/\w.cell? ⟨b,off+n*2,none⟩=some (.slice am (Zi ts n).1.length cm)/\w.cell? ⟨b,off+n*2+1,none⟩=some (.slice al (Zi ts n).2.length cl)/\Zo w am (Zi ts n).1/\ZS w al (Zi ts n).2/\(s=true->(Zi ts n).1.length<=cm/\(Zi ts n).2.length<=cl):=by
 obtain⟨b,off,e,a,d⟩:=h.seg (by omega)
 obtain⟨am,cm,al,cl,c,f,i,g,j⟩:=d n hn
 exact⟨b,off,am,cm,al,cl,e,a,c,f,i,g,j⟩
def Z0(ms:List Mk)(ts:List Wb):Prop:=ZL ms/\Z1 ts/\Zb1 ms+ZeU ts<=1048576
def ZeF(ms:List Mk)(ts:List Wb):Prop:=ms.length<=maxLen/\(∀i,(mat ms i).length<=maxLen)/\Znp ts
theorem szSt(v:Bool)(am aw:Option Addr)(cm cw:Nat)(wd:Int)(ms:List Mk)(d:Int)(ts:List Wb)(nx:Int)(w:World)(hm:Zo w am ms)(hw:Zp v w aw ts)(hf:ZeF ms ts):
 Calls Tryz.prog 40 #[.agg #[.int .i64 wd,.slice am ms.length cm,.int .i64 d,.slice aw ts.length cw,.int .i64 nx],.int .i64 1048576] w fun e w'=>∃r,e=.returned (.int .i64 r)/\r<=1048576/\(r<0\/Z0 ms ts)/\Below w.heap.size w w':=by
 obtain⟨W,o⟩:∃W,w.alloc (.cells #[.int .i64 wd,.slice am ms.length cm,.int .i64 d,.slice aw ts.length cw,.int .i64 nx] 27)=W:=⟨_,rfl⟩
 have p:=balZ o
 have b:ZbA v W w.heap.size am aw cm cw wd ms d ts nx:=by rw [<-o];exact ZbA.box hm hw
 have u:=Za p
 have A:=Za b
 have E:=b.c1
 have C:=Za (szMg am cm ms 1048576 W b.mv (by omega) (by omega) hf.1 hf.2.1)
 have l:=Za (fun (W':World) (L:Below W.heap.size W W') (r:Int) (h0:0<=r) (h1:r<=1048576)=>szTw v aw cw d ts r W' (b.below L).wv h0 h1 hf.2.2.1 hf.2.2.2)
 clear hm hw p b hf
 go_enter Tryz.func40,Tryz.ntmps40
 go_wp2_with fail
 refine C.out.mono ?_
 rintro e x ⟨r,rfl,D,q,j⟩
 by_cases hneg:r<0
 · go_wp2_with fail
   go_ret
   exact⟨-1,rfl,by omega,Or.inl (by omega),Zb u.out j⟩
 have c:ZL ms/\(Zb1 ms:Int)+r=1048576:=by rcases q with h | h;exact absurd h hneg;exact h
 have f:=Za c
 have a:=A.out.below j
 have B:=a.c2
 have y:=a.c3
 have z:=Za (l.out x j r (by omega) (by omega))
 have m:=Za (Zb u.out j)
 clear q j o c a
 go_wp2_with fail
 refine z.out.mono ?_
 rintro e F ⟨n,rfl,t,g,s⟩
 have i:=Za (Zb m.out s)
 clear s
 by_cases hneg2:n<0
 · go_wp2_with fail
   go_ret
   exact⟨-1,rfl,by omega,Or.inl (by omega),i.out⟩
 have k:Hid (Z1 ts/\(ZeU ts:Int)+n=r):=by rcases g with h | h;exact absurd h hneg2;exact h
 clear g
 go_wp2_with fail
 go_ret
 exact⟨n,rfl,by omega,Or.inr ⟨f.out.1,k.out.1,by have:=f.out.2;have:=k.out.2;omega⟩,i.out⟩
theorem eqSt(v v':Bool)(am aw:Option Addr)(cm cw:Nat)(wd:Int)(ms:List Mk)(d:Int)(ts:List Wb)(nx:Int)(bm bw:Option Addr)(dm dw:Nat)(w:World)(hm:Zo w am ms)(hw:Zp v w aw ts)(hm':Zo w bm ms)(hw':Zp v' w bw ts)(hsm:Z0 ms ts):
 Calls Tryz.prog 53 #[.agg #[.int .i64 wd,.slice am ms.length cm,.int .i64 d,.slice aw ts.length cw,.int .i64 nx],.agg #[.int .i64 wd,.slice bm ms.length dm,.int .i64 d,.slice bw ts.length dw,.int .i64 nx]] w fun e w'=>e=.returned (.bool true)/\Below w.heap.size w w':=by
 obtain⟨h,b⟩:∃W,w.alloc (.cells #[.int .i64 wd,.slice am ms.length cm,.int .i64 d,.slice aw ts.length cw,.int .i64 nx] 41)=W:=⟨_,rfl⟩
 have c:=balZ b
 have l:ZbA v h w.heap.size am aw cm cw wd ms d ts nx:=by rw [<-b];exact ZbA.box hm hw
 obtain⟨W,p⟩:∃W,h.alloc (.cells #[.int .i64 wd,.slice bm ms.length dm,.int .i64 d,.slice bw ts.length dw,.int .i64 nx] 41)=W:=⟨_,rfl⟩
 have g:=balZ p
 have j:=salZ b
 have a:ZbA v' W h.heap.size bm bw dm dw wd ms d ts nx:=by rw [<-p];exact ZbA.box (hm'.next c) (hw'.next c)
 rw [j] at a
 have i:=l.below g
 have C:=Za i
 have t:=Za a
 have R:=i.c0
 have K:=i.c1
 have Q:=a.c0
 have G:=a.c1
 have D:(wd !=wd)=false:=by simp
 have y:(nx !=nx)=false:=by simp
 have u:=Za (eqMS am bm cm dm ms ms W i.mv a.mv hsm.1)
 rw [show decide (ms=ms)=true by simp] at u
 have q:=Za (fun (x:World) (L:Below W.heap.size W x)=>eqTw v v' aw bw cw dw d ts x (i.below L).wv (a.below L).wv hsm.2.1)
 have E:=Za (Zb c g)
 have k:Hid _:=aw2Z b p
 clear c g hm hw hm' hw' hsm l i a b p j
 go_enter Tryz.func53,Tryz.ntmps53
 go_wp2_with fail
 rw [k.out]
 refine u.out.mono ?_
 rintro e O ⟨rfl,m⟩
 have n:=C.out.below m
 have f:=t.out.below m
 have P:=n.c2
 have M:=n.c3
 have I:=f.c2
 have J:=f.c3
 have A:=Za (q.out _ m)
 have B:=Za (Zb E.out m)
 have z:=Za n
 have r:=Za f
 clear m n f k
 go_wp2_with fail
 refine A.out.mono ?_
 rintro e N ⟨rfl,o⟩
 have H:=(z.out.below o).c4
 have F:=(r.out.below o).c4
 have s:=Za (Zb B.out o)
 clear o
 go_wp2_with fail
 go_ret
 exact⟨rfl,s.out⟩
theorem Zk{w:World}{q:Nat}{a b c d e:Value}{t:TypeId}(h:w.heap[q]? =some (.cells #[a,b,c,d,e] t)):w.cell? ⟨q,0,none⟩=some a/\w.cell? ⟨q,1,none⟩=some b/\w.cell? ⟨q,2,none⟩=some c/\w.cell? ⟨q,3,none⟩=some d/\w.cell? ⟨q,4,none⟩=some e/\(∀j,w.frozen? ⟨q,j,none⟩=false)/\q<w.heap.size:=by
 refine⟨by simp [World.cell?,h],by simp [World.cell?,h],by simp [World.cell?,h],by simp [World.cell?,h],by simp [World.cell?,h],fun j=>by simp [World.frozen?,h],?_⟩
 rcases Nat.lt_or_ge q w.heap.size with e | e
 · exact e
 · rw [Array.getElem?_eq_none e] at h;cases h
theorem ZgD{w:World}{q:Nat}{a b c d e x:Value}{t:TypeId}(h:w.heap[q]? =some (.cells #[a,b,c,d,e] t)):(w.setCell ⟨q,1,none⟩ x).heap[q]? =some (.cells #[a,x,c,d,e] t):=by
 simp [World.setCell,Array.getElem?_modify,h]
structure Zcf(w:World)(bm hi b:Nat)(ms:List Mk)(ts:List Wb)(lo:Nat->Nat):Prop where
 part:ZaQ w bm ms.length ms.length ms
 over:Zbk w bm hi ms
 webs:Zad w b ts.length ts.length ts lo
 first:bm<hi
 last:hi<=b
theorem Zcf.next{w w':World}{bm hi b:Nat}{ms:List Mk}{ts:List Wb}{lo:Nat->Nat}(h:Zcf w bm hi b ms ts lo)(L:Below w.heap.size w w'):Zcf w' bm hi b ms ts lo:=
 ⟨h.part.below (Nat.le_refl _) L,h.over.below (Nat.le_trans h.last (Nat.le_of_lt h.webs.lt)) L,h.webs.next L,h.first,h.last⟩
theorem Zcf.mview{w:World}{bm hi b:Nat}{ms:List Mk}{ts:List Wb}{lo:Nat->Nat}(h:Zcf w bm hi b ms ts lo):Zo w (some ⟨bm,0,none⟩) ms:=h.part.view
theorem Zcf.wview{w:World}{bm hi b:Nat}{ms:List Mk}{ts:List Wb}{lo:Nat->Nat}(h:Zcf w bm hi b ms ts lo):Zp true w (some ⟨b,0,none⟩) ts:=h.webs.view
theorem Zcf.far{w w':World}{bm hi b:Nat}{ms:List Mk}{ts:List Wb}{lo:Nat->Nat}(h:Zcf w bm hi b ms ts lo)(hs:w.heap.size<=w'.heap.size)(e:∀i,bm<=i->w'.heap[i]? =w.heap[i]?):Zcf w' bm hi b ms ts lo:=
 ⟨h.part.far hs (fun i h1 _=>e i h1),h.over.far hs (fun i h1 _ _=>e i h1),h.webs.far hs (fun i h1 _=>e i (by have:=h.first;have:=h.last;omega)),h.first,h.last⟩
theorem toSt(v:Bool)(am aw:Option Addr)(cm cw:Nat)(wd:Int)(ms:List Mk)(d:Int)(ts:List Wb)(nx:Int)(w:World)(hm:Zo w am ms)(hw:Zp v w aw ts)(hsm:Z0 ms ts):
 Calls Tryz.prog 45 #[.agg #[.int .i64 wd,.slice am ms.length cm,.int .i64 d,.slice aw ts.length cw,.int .i64 nx]] w fun e w'=>∃bm hi b lo,e=.returned (.agg #[.int .i64 wd,.slice (some ⟨bm,0,none⟩) ms.length ms.length,.int .i64 d,.slice (some ⟨b,0,none⟩) ts.length ts.length,.int .i64 nx])/\Zcf w' bm hi b ms ts lo/\w.heap.size<=bm/\Below w.heap.size w w':=by
 obtain⟨o,g⟩:∃W,w.alloc (.cells #[.int .i64 wd,.slice am ms.length cm,.int .i64 d,.slice aw ts.length cw,.int .i64 nx] 27)=W:=⟨_,rfl⟩
 obtain⟨n,c⟩:∃W,o.alloc (.cells #[.int .i64 0,.slice none 0 0,.int .i64 0,.slice none 0 0,.int .i64 0] 41)=W:=⟨_,rfl⟩
 obtain⟨W,G⟩:∃W,n.alloc (.cells #[.int .i64 wd,.slice none 0 0,.int .i64 0,.slice none 0 0,.int .i64 0] 41)=W:=⟨_,rfl⟩
 have s1:=salZ g
 have s2:n.heap.size=w.heap.size+1+1:=by rw [<-c];simp [s1]
 have ap:W.heap.size=w.heap.size+1+1+1:=by rw [<-G];simp [s2]
 have b1:=balZ g
 have K:=balZ c
 have I:=balZ G
 have L:Below w.heap.size w W:=Zb (Zb b1 K) I
 have s:W.heap[w.heap.size]? =some (.cells #[.int .i64 wd,.slice am ms.length cm,.int .i64 d,.slice aw ts.length cw,.int .i64 nx] 27):=(I.block _ (by omega)).trans ((K.block _ (by omega)).trans (by rw [<-g];exact heap_alloc_new w _))
 have t:W.heap[w.heap.size+1]? =some (.cells #[.int .i64 0,.slice none 0 0,.int .i64 0,.slice none 0 0,.int .i64 0] 41):=(I.block _ (by omega)).trans (by rw [<-c,<-s1];exact heap_alloc_new o _)
 have z:=nal2Z G s2
 obtain⟨z0,z1,z2,T,z4,-,-⟩:=Zk s
 have HS:=Za (toMS am cm ms W (hm.next L) hsm.1)
 have HV:=Za hw
 have HB:=Za L
 have X:=Za (And.intro s (And.intro t z))
 have P:=Za hsm.2.1
 have C:Hid _:=aw3Z g c G
 clear L hm hw b1 K I s t z hsm g c G z0 z1 z2 T z4
 go_enter Tryz.func45,Tryz.ntmps45
 go_wp2_with fail
 rw [C.out]
 refine HS.out.mono ?_
 rintro e J ⟨bm,rfl,p1,O,p⟩
 obtain⟨s,t,z⟩:=X.out
 have u0:=(p.block _ (by omega)).trans s
 have u1:=(p.block _ (by omega)).trans t
 have u2:=(p.block _ (by omega)).trans z
 obtain⟨-,e2,-,-,-,Z,-⟩:=Zk u2
 have Q:=Z 1
 obtain⟨f,h⟩:∃f,J.setCell ⟨w.heap.size+1+1,1,none⟩ (.slice (some ⟨bm,0,none⟩) ms.length ms.length)=f:=⟨_,rfl⟩
 have a:∀i,i≠w.heap.size+1+1->f.heap[i]? =J.heap[i]? :=fun i hi=>by rw [<-h];exact Below.heap_setCell J ⟨w.heap.size+1+1,1,none⟩ _ i (fun e=>hi e)
 have T:f.heap.size=J.heap.size:=by rw [<-h];simp [World.setCell]
 have q:=(a w.heap.size (by omega)).trans u0
 have u:=(a (w.heap.size+1) (by omega)).trans u1
 have F:f.heap[w.heap.size+1+1]? =some (.cells #[.int .i64 wd,.slice (some ⟨bm,0,none⟩) ms.length ms.length,.int .i64 0,.slice none 0 0,.int .i64 0] 41):=by rw [<-h];exact ZgD u2
 have l:ZaQ f bm ms.length ms.length ms:=p1.far (by omega) (fun i M _=>a i (by omega))
 have r:Below w.heap.size w f:=by rw [<-h];exact (Zb HB.out p).setCell (by show w.heap.size<=w.heap.size+1+1;omega) _
 obtain⟨-,-,y2,y3,y4,-,-⟩:=Zk q
 have a3:=p.size
 have y:=Za (toTw v aw cw d ts f (HV.out.next r) P.out)
 have U:=Za (And.intro q (And.intro u (And.intro F (And.intro l r))))
 have A:Hid (w.heap.size+1+1+1<=bm/\bm<f.heap.size):=by refine⟨?_,?_⟩;omega;exact l.1
 clear X s t z u0 u1 u2 q u F p1 l p r a O Z HS C
 go_wp2_with fail
 refine y.out.mono ?_
 rintro e D ⟨b,lo,rfl,R,N,k⟩
 obtain⟨q,u,F,l,r⟩:=U.out
 obtain⟨ab,x⟩:=A.out
 have Y:=(k.block _ (by omega)).trans q
 have V:=(k.block _ (by omega)).trans u
 have S:=(k.block _ (by omega)).trans F
 have ag:=k.size
 obtain⟨-,-,-,-,m4,-,-⟩:=Zk Y
 obtain⟨g0,g1,g2,g3,g4,m,-⟩:=Zk V
 obtain⟨h0,M,h2,h3,h4,H,-⟩:=Zk S
 have a5:=m 0
 have au:=m 1
 have ak:=m 2
 have a4:=m 3
 have az:=m 4
 have a8:=H 2
 have ar:=H 3
 have aq:=H 4
 have HF:Hid (Zcf D bm f.heap.size b ms ts lo/\Below w.heap.size w D):=⟨⟨l.below (Nat.le_refl _) k,(ZaQ.over l).below (Nat.le_refl _) k,R,x,N⟩,Zb r k⟩
 clear q u F l r Y V S R k U A m H y y2 y3 y4 h e2 Q
 go_wp2_with fail
 refine bodyPost_ret (v:=.agg #[.int .i64 wd,.slice (some ⟨bm,0,none⟩) ms.length ms.length,.int .i64 d,.slice (some ⟨b,0,none⟩) ts.length ts.length,.int .i64 nx]) (by simp [results,Tryz.results45,go_sem,g0,g1,g2,g3,g4]) rfl ?_
 obtain⟨E,j⟩:∃E,((((((((D.setCell ⟨w.heap.size+1+1,2,none⟩ (.int .i64 d)).setCell ⟨w.heap.size+1+1,3,none⟩ (.slice (some ⟨b,0,none⟩) ts.length ts.length)).setCell ⟨w.heap.size+1+1,4,none⟩ (.int .i64 nx)).setCell ⟨w.heap.size+1,0,none⟩ (.int .i64 wd)).setCell ⟨w.heap.size+1,1,none⟩ (.slice (some ⟨bm,0,none⟩) ms.length ms.length)).setCell ⟨w.heap.size+1,2,none⟩ (.int .i64 d)).setCell ⟨w.heap.size+1,3,none⟩ (.slice (some ⟨b,0,none⟩) ts.length ts.length)).setCell ⟨w.heap.size+1,4,none⟩ (.int .i64 nx))=E:=⟨_,rfl⟩
 obtain⟨q1,q4⟩:=HF.out
 have B:∀i,bm<=i->E.heap[i]? =D.heap[i]? :=fun i hi=>by
  rw [<-j,Below.heap_setCell _ ⟨w.heap.size+1,4,none⟩ _ i (fun e=>by have:i=w.heap.size+1:=e;omega),Below.heap_setCell _ ⟨w.heap.size+1,3,none⟩ _ i (fun e=>by have:i=w.heap.size+1:=e;omega),Below.heap_setCell _ ⟨w.heap.size+1,2,none⟩ _ i (fun e=>by have:i=w.heap.size+1:=e;omega),Below.heap_setCell _ ⟨w.heap.size+1,1,none⟩ _ i (fun e=>by have:i=w.heap.size+1:=e;omega),Below.heap_setCell _ ⟨w.heap.size+1,0,none⟩ _ i (fun e=>by have:i=w.heap.size+1:=e;omega),Below.heap_setCell _ ⟨w.heap.size+1+1,4,none⟩ _ i (fun e=>by have:i=w.heap.size+1+1:=e;omega),Below.heap_setCell _ ⟨w.heap.size+1+1,3,none⟩ _ i (fun e=>by have:i=w.heap.size+1+1:=e;omega),Below.heap_setCell _ ⟨w.heap.size+1+1,2,none⟩ _ i (fun e=>by have:i=w.heap.size+1+1:=e;omega)]
 have z5:E.heap.size=D.heap.size:=by rw [<-j];simp [World.setCell]
 have L5:Below w.heap.size w E:=by rw [<-j];exact ((((((((q4.setCell (by show w.heap.size<=w.heap.size+1+1;omega) _).setCell (by show w.heap.size<=w.heap.size+1+1;omega) _).setCell (by show w.heap.size<=w.heap.size+1+1;omega) _).setCell (by show w.heap.size<=w.heap.size+1;omega) _).setCell (by show w.heap.size<=w.heap.size+1;omega) _).setCell (by show w.heap.size<=w.heap.size+1;omega) _).setCell (by show w.heap.size<=w.heap.size+1;omega) _).setCell (by show w.heap.size<=w.heap.size+1;omega) _)
 rw [j]
 exact⟨bm,f.heap.size,b,lo,rfl,q1.far (by omega) (fun i M=>B i M),by omega,L5⟩
def grB(wd nx:Int)(m:Mk):Bool:=decide ((m.2.length:Int)=wd) && decide (m.1<nx)
def Ze1(wd nx:Int)(ms:List Mk):Bool:=ms.all (grB wd nx)
def stB(wd:Int)(ms:List Mk)(d:Int)(ts:List Wb)(nx:Int):Bool:=inR wd 1 4 && (Zt ms && (Zap d ts && (inR nx 1 1000000 && (Ze1 wd nx (Zi ts 0).1 && ZaR (Zi ts 0).1 ms))))
theorem Zkr{wd nx:Int}{l:List Mk}{k:Nat}(hk:k<l.length)(h:grB wd nx (ZJ l k)=false):Ze1 wd nx l=false:=by
 rcases e:Ze1 wd nx l with _ | _
 · rfl
 · rw [Ze1,List.all_eq_true] at e
   rw [e _ (Zga hk)] at h
   cases h
theorem ZiJ{wd nx:Int}{l:List Mk}(h:∀k,k<l.length->grB wd nx (ZJ l k)=true):Ze1 wd nx l=true:=by
 rw [Ze1,List.all_eq_true]
 intro m b
 obtain⟨k,a,rfl⟩:=List.getElem_of_mem b
 have:=h k a
 simpa [ZJ,List.getD,a] using this
theorem ZlY(v:Bool)(am aw:Option Addr)(cm cw:Nat)(wd:Int)(ms:List Mk)(d:Int)(ts:List Wb)(nx:Int)(w:World)(hm:Zo w am ms)(hw:Zp v w aw ts)(hsm:Z0 ms ts):
 Calls Tryz.prog 69 #[.agg #[.int .i64 wd,.slice am ms.length cm,.int .i64 d,.slice aw ts.length cw,.int .i64 nx]] w fun e w'=>e=.returned (.bool (stB wd ms d ts nx))/\Below w.heap.size w w':=by
 obtain⟨W,hW⟩:∃W,w.alloc (.cells #[.int .i64 wd,.slice am ms.length cm,.int .i64 d,.slice aw ts.length cw,.int .i64 nx] 41)=W:=⟨_,rfl⟩
 have hB:=balZ hW
 have hI:ZbA v W w.heap.size am aw cm cw wd ms d ts nx:=by rw [<-hW];exact ZbA.box hm hw
 have HB:=Za hB
 have Z:=Za hI
 have k0:=hI.c0
 have P:=Za (sIn wd 1 4)
 have J:=Za (sIn nx 1 1000000)
 have O:=Za (fun (W':World) (L:Below W.heap.size W W')=>Zg2 am cm ms W' (hI.below L).mv hsm.1)
 have S:=Za (fun (W':World) (L:Below W.heap.size W W')=>Znq v aw cw d ts W' (hI.below L).wv hsm.2.1)
 have ag:=Za hsm
 have F:Hid (Zap d ts=true->ts.length=4/\Zax (Zi ts 0).1 (Zi ts 0).2=true):=fun h=>by
  rw [Zap,Bool.and_eq_true,Bool.and_eq_true,decide_eq_true_eq,List.all_eq_true] at h
  exact⟨h.2.1,ZcT (h.2.2 0 (by simp))⟩
 have I:Hid (Zt ms=true->ms.length<=60):=fun h=>ZF h
 obtain⟨b1,V⟩:∃b,inR wd 1 4=b:=⟨_,rfl⟩
 obtain⟨b2,U⟩:∃b,Zt ms=b:=⟨_,rfl⟩
 obtain⟨b3,Q⟩:∃b,Zap d ts=b:=⟨_,rfl⟩
 obtain⟨b4,T⟩:∃b,inR nx 1 1000000=b:=⟨_,rfl⟩
 have z:Hid (stB wd ms d ts nx=(b1 && (b2 && (b3 && (b4 && (Ze1 wd nx (Zi ts 0).1 && ZaR (Zi ts 0).1 ms)))))):=by show _=_;rw [<-V,<-U,<-Q,<-T];rfl
 rw [V] at P
 rw [U] at O I
 rw [Q] at S F
 rw [T] at J
 clear hm hw hsm hB hI V U Q T
 go_enter Tryz.func69,Tryz.ntmps69
 go_wp2_with fail
 refine (P.out _).mono ?_
 rintro e w1 ⟨rfl,M⟩
 have ax:=M.symm
 subst ax
 cases b1 with
 | false=>
   go_wp2_with fail
   go_ret
   exact⟨Zd (by rw [z.out];rfl),HB.out⟩
 | true=>
 have k1:=Z.out.c1
 go_wp2_with fail
 refine (O.out _ (Below.refl _ _)).mono ?_
 rintro e w1 ⟨rfl,n1,M⟩
 subst M
 have L1:Hid (Below W.heap.size W (W.drewN n1)):=below_drewN (Below.refl _ _) n1
 clear hW k0 k1
 cases b2 with
 | false=>
   go_wp2_with fail
   go_ret
   exact⟨Zd (by rw [z.out];rfl),Zb HB.out L1.out⟩
 | true=>
 have c2:=(Z.out.below L1.out).c2
 have c3:=(Z.out.below L1.out).c3
 generalize W.drewN n1=W1 at *
 go_wp2_with fail
 refine (S.out _ L1.out).mono ?_
 rintro e w2 ⟨rfl,L2⟩
 have y:=Za (Zb L1.out L2)
 clear L2 L1 c2 c3
 cases b3 with
 | false=>
   go_wp2_with fail
   go_ret
   exact⟨Zd (by rw [z.out];rfl),Zb HB.out y.out⟩
 | true=>
 have c4:=(Z.out.below y.out).c4
 go_wp2_with fail
 refine (J.out _).mono ?_
 rintro e w3 ⟨rfl,aI⟩
 subst aI
 cases b4 with
 | false=>
   go_wp2_with fail
   go_ret
   exact⟨Zd (by rw [z.out];rfl),Zb HB.out y.out⟩
 | true=>
 have E:=Z.out.below y.out
 have G:=Za (F.out (by trivial)).1
 have a9:=Za (F.out (by trivial)).2
 obtain⟨b,b9,gm,gc,al,cl,rfl,hb,q0,q1,K,-,-⟩:=E.wv.web (n:=0) (by rw [G.out];omega)
 rw [Nat.zero_mul,Nat.add_zero] at q0 q1
 have c3:=E.c3
 rw [G.out] at c3
 have H:=Za (ZF (ZY a9.out))
 have a4:=Za (I.out (by trivial))
 have u:=Za (ag.out.2.1.2 0).1
 obtain⟨a,ab⟩:∃a,(Zi ts 0).1=a:=⟨_,rfl⟩
 rw [ab] at H u z q0 K
 have aj:=Za K
 have C:=Za (Zb HB.out y.out)
 have a3:=Za E
 clear c4 E ab K O S F I P J Z HB y a9
 go_wp2_with fail
 clear q0 q1 c3
 go_loopw [4] (fun Y wr=>∃i:Nat,i<=a.length/\Y=.int .i64 i/\(∀j,j<i->grB wd nx (ZJ a j)=true)/\Below w3.heap.size w3 wr) (fun Y _=>a.length-(intOf Y).toNat)
 case atStart=>exact⟨0,Nat.zero_le _,rfl,fun j hj=>by omega,Below.refl _ _⟩
 case round=>
  obtain⟨i,hi,rfl,o,L⟩:=hrel
  have X:=Za o
  have D:=Za L
  have g:=a3.out.below L
  have l:=aj.out.next L
  clear o L
  by_cases hlt:i<a.length
  · have ay:=H.out
    have B:(i:Int)<(a.length:Int):=by omega
    have av:=n0Z i
    obtain⟨mb,mo,rfl,az,A⟩:=ZaV.seg l (by omega)
    obtain⟨aH,pa,pc,aB,-⟩:=A.at (i:=i) hlt
    have e0:=g.c0
    have e4:=g.c4
    have s:=Za (fun h=>Zkr (wd:=wd) (nx:=nx) hlt h)
    have aA:=u.out.2 i
    have k:Hid (grB wd nx (ZJ a i)=(decide (((mat a i).length:Int)=wd) && decide (mid a i<nx))):=rfl
    clear A l g
    generalize mid a i=x at *
    generalize (mat a i).length=xl at *
    by_cases hwd:(xl:Int)=wd
    · have aG:((xl:Int) !=wd)=false:=by simp [hwd]
      rw [decide_eq_true hwd] at k
      by_cases hnx:x<nx
      · have aD:¬(x≥nx):=by omega
        rw [decide_eq_true hnx] at k
        go_wp2_with fail
        refine wp_region_quiet_lit (by kernel_rfl) (by kernel_rfl) ?_
        try simp only [List.append_eq,List.cons_append,List.nil_append]
        repeat (go_big_quiet_step (fail))
        refine wpQuiet_nil ?_
        intro _ f
        obtain⟨nq,c⟩:=f
        subst c
        go_wp2_with fail
        go_roundw
        case rel=>exact⟨i+1,by omega,by go_num,fun j hj=>by
         rcases Nat.lt_or_ge j i with h | h
         · exact X.out j h
         · rw [show j=i by omega];exact k.out,below_drewN D.out _⟩
        case measure=>simp [intOf];omega
      · have aD:x≥nx:=by omega
        rw [decide_eq_false hnx] at k
        have p:Hid (stB wd ms d ts nx=false):=by show _=_;rw [z.out,s.out (k.out.trans rfl)];rfl
        clear k
        go_wp2_with fail
        refine wp_region_quiet_lit (by kernel_rfl) (by kernel_rfl) ?_
        try simp only [List.append_eq,List.cons_append,List.nil_append]
        repeat (go_big_quiet_step (fail))
        refine wpQuiet_nil ?_
        intro _ f
        obtain⟨nq,c⟩:=f
        subst c
        go_wp2_with fail
        go_ret
        exact⟨Zd p.out.symm,below_drewN (Zb C.out D.out) _⟩
    · have aG:((xl:Int) !=wd)=true:=by simp [hwd]
      rw [decide_eq_false hwd] at k
      have p:Hid (stB wd ms d ts nx=false):=by show _=_;rw [z.out,s.out (k.out.trans rfl)];rfl
      clear k
      go_wp2_with fail
      refine wp_region_quiet_lit (by kernel_rfl) (by kernel_rfl) ?_
      try simp only [List.append_eq,List.cons_append,List.nil_append]
      repeat (go_big_quiet_step (fail))
      refine wpQuiet_nil ?_
      intro _ f
      obtain⟨nq,c⟩:=f
      subst c
      go_wp2_with fail
      go_ret
      exact⟨Zd p.out.symm,below_drewN (Zb C.out D.out) _⟩
  · have B:¬(i:Int)<(a.length:Int):=by omega
    obtain rfl:i=a.length:=by omega
    have a6:=Za (ZiJ X.out)
    rw [a6.out] at z
    clear l g hi hlt a6 X
    go_wp2_with fail
    go_loopw [5] (fun Y wi=>∃i:Nat,i<=ms.length/\Y=.int .i64 i/\(∀j,j<i->ZaT a (ZJ ms j)=true)/\Below w3.heap.size w3 wi) (fun Y _=>ms.length-(intOf Y).toNat)
    case atStart=>exact⟨0,Nat.zero_le _,rfl,fun j hj=>by omega,D.out⟩
    case round=>
     obtain⟨i,hi,rfl,o,Li⟩:=hrel
     generalize hwi:wr=wi at *
     clear hwi wr D
     have X:=Za o
     have D:=Za Li
     have g:=a3.out.below Li
     have l:=aj.out.next Li
     have e1:=g.c1
     clear o Li
     by_cases hlt:i<ms.length
     · have ay:=a4.out
       have B:(i:Int)<(ms.length:Int):=by omega
       have av:=n0Z i
       obtain⟨mb,mo,rfl,az,A⟩:=ZaV.seg g.mv (by omega)
       obtain⟨aH,pa,pc,aB,a8⟩:=A.at (i:=i) hlt
       have R:=Za (Zgo gm gc a (mid ms i) wi l u.out.1)
       have s:=Za (fun h=>Zgb (lo:=a) hlt h)
       have q:Hid (ZaT a (ZJ ms i)=true↔0<=ZC a (mid ms i)/\mat a (ZD a (mid ms i))=mat ms i):=Zdn
       have au:=Za a8
       have aA:=ag.out.1.2 i
       clear A a8 g
       generalize mid ms i=x at *
       generalize mat ms i=xa at *
       rcases hfz:decide (0<=ZC a x) with _ | _
       · have t:ZC a x<0:=by simpa using hfz
         have p:Hid (stB wd ms d ts nx=false):=by show _=_;rw [z.out,s.out (by rcases e:ZaT a (ZJ ms i) with _ | _;rfl;have:=q.out.1 e;omega)];rfl
         clear hfz q s l
         generalize ZC a x=fz at *
         go_wp2_with fail
         refine R.out.mono ?_
         rintro e w5 ⟨rfl,N⟩
         subst N
         go_wp2_with fail
         refine wp_region_quiet_lit (by kernel_rfl) (by kernel_rfl) ?_
         try simp only [List.append_eq,List.cons_append,List.nil_append]
         repeat (go_big_quiet_step (fail))
         refine wpQuiet_nil ?_
         intro _ f
         obtain⟨nq,c⟩:=f
         subst c
         go_wp2_with fail
         go_ret
         exact⟨Zd p.out.symm,below_drewN (Zb C.out D.out) _⟩
       · have t:0<=ZC a x:=by simpa using hfz
         obtain⟨za,zb,zc⟩:=Zab t
         obtain⟨lb,bh,rfl,be,ac⟩:=ZaV.seg l (by omega)
         obtain⟨-,qa,qc,b0,ai⟩:=ac.at (i:=ZD a x) za
         have b6:=u.out.2 (ZD a x)
         have ad:Hid (∀m,Calls Tryz.prog 117 #[.slice qa (mat a (ZD a x)).length qc,.slice pa xa.length pc] (wi.drewN m) fun e a7=>e=.returned (.bool (decide (mat a (ZD a x)=xa)))/\∃m',a7=wi.drewN m'):=fun m=>by
          refine (ZlX qa pa qc pc (mat a (ZD a x)) xa (wi.drewN m) (Zy.drewN ai m) (Zy.drewN au.out m) (by omega)).mono ?_
          rintro e a7 ⟨he,m',hm⟩
          exact⟨he,m+m',by rw [hm];simp⟩
         have ae:Hid (decide (mat a (ZD a x)=xa)=false->stB wd ms d ts nx=false):=fun h=>by rw [z.out,s.out (by rcases e:ZaT a (ZJ ms i) with _ | _;rfl;have:=q.out.1 e;rw [decide_eq_false_iff_not] at h;exact absurd this.2 h)];rfl
         have a5:Hid (decide (mat a (ZD a x)=xa)=true->ZaT a (ZJ ms i)=true):=fun h=>q.out.2 ⟨t,of_decide_eq_true h⟩
         rw [zb.symm] at R
         have bf:(0:Int)<=(ZD a x:Int):=Int.natCast_nonneg _
         have b7:((ZD a x:Nat):Int)<(a.length:Int):=by omega
         have aE:¬((ZD a x:Nat):Int)<0:=by omega
         have aR:decide (((ZD a x:Nat):Int)<0)=false:=decide_eq_false aE
         clear hfz t q s zb zc ac ai l
         obtain⟨r,hr⟩:∃r,decide (mat a (ZD a x)=xa)=r:=⟨_,rfl⟩
         rw [hr] at ad ae a5
         clear hr
         generalize (mat a (ZD a x)).length=ql at *
         generalize ZD a x=j at *
         go_wp2_with fail
         refine R.out.mono ?_
         rintro e w5 ⟨rfl,N⟩
         subst N
         go_wp2_with fail
         refine wp_region_quiet_lit (by kernel_rfl) (by kernel_rfl) ?_
         try simp only [List.append_eq,List.cons_append,List.nil_append]
         repeat (go_big_quiet_step ((go_at_call 117;exact ad.out _)))
         refine wpQuiet_nil ?_
         intro _ f
         obtain⟨nq,c⟩:=f
         subst c
         cases r with
         | false=>
           have p:=Za (ae.out rfl)
           go_wp2_with fail
           go_ret
           exact⟨Zd p.out.symm,below_drewN (Zb C.out D.out) _⟩
         | true=>
           have q:=Za (a5.out rfl)
           go_wp2_with fail
           go_roundw
           case rel=>exact⟨i+1,by omega,by go_num,fun j hj=>by
            rcases Nat.lt_or_ge j i with h | h
            · exact X.out j h
            · rw [show j=i by omega];exact q.out,below_drewN D.out _⟩
           case measure=>simp [intOf];omega
     · have B:¬(i:Int)<(ms.length:Int):=by omega
       obtain rfl:i=ms.length:=by omega
       have aa:=Za (ZeE X.out)
       rw [aa.out] at z
       clear l g hi hlt aa X
       go_wp2_with fail
       go_ret
       exact⟨Zd (by rw [z.out];rfl),Zb C.out D.out⟩
theorem Zkg(n1 n2:Nat)(am aw ao:Option Addr)(cm cw cap n:Nat)(wd d nx:Int)(w:World):
 Calls Tryz.prog 133 #[.agg #[.int .i64 wd,.slice am n1 cm,.int .i64 d,.slice aw n2 cw,.int .i64 nx],.slice ao n cap] w fun e w'=>e=.returned (.bool (decide ((n:Int)=wd)))/\Below w.heap.size w w':=by
 obtain⟨W,a⟩:∃W,w.alloc (.cells #[.int .i64 wd,.slice am n1 cm,.int .i64 d,.slice aw n2 cw,.int .i64 nx] 41)=W:=⟨_,rfl⟩
 have b:=balZ a
 have g:W.cell? ⟨w.heap.size,0,none⟩=some (.int .i64 wd):=by rw [<-a];simp
 have c:=Za b
 clear b
 have f:((n:Int) ==wd)=decide ((n:Int)=wd):=by rw [Bool.eq_iff_iff];simp
 go_enter Tryz.func133,Tryz.ntmps133
 go_wp2_with fail
 go_ret
 exact⟨Zd (by simp),c.out⟩
theorem iBars(n1 n2:Nat)(am aw ao:Option Addr)(cm cw cap:Nat)(wd d nx:Int)(m:Mk)(w:World):
 Calls Tryz.prog 112 #[.agg #[.int .i64 wd,.slice am n1 cm,.int .i64 d,.slice aw n2 cw,.int .i64 nx],.agg #[.int .i64 m.1,.slice ao m.2.length cap]] w fun e w'=>e=.returned (.bool (!grB wd nx m))/\Below w.heap.size w w':=by
 obtain⟨f,a⟩:∃W,w.alloc (.cells #[.int .i64 wd,.slice am n1 cm,.int .i64 d,.slice aw n2 cw,.int .i64 nx] 41)=W:=⟨_,rfl⟩
 have i:=balZ a
 have s1:=salZ a
 obtain⟨W,g⟩:∃W,f.alloc (.cells #[.int .i64 m.1,.slice ao m.2.length cap] 161)=W:=⟨_,rfl⟩
 have b:=balZ g
 have c:w.heap.size<f.heap.size:=by omega
 have j:W.heap.size=w.heap.size+1+1:=by rw [<-g];simp [s1]
 have z:W.cell? ⟨w.heap.size,0,none⟩=some (.int .i64 wd):=(b.cell (p:=⟨w.heap.size,0,none⟩) c).trans (by rw [<-a];simp)
 have t:W.cell? ⟨w.heap.size,1,none⟩=some (.slice am n1 cm):=(b.cell (p:=⟨w.heap.size,1,none⟩) c).trans (by rw [<-a];simp)
 have v:W.cell? ⟨w.heap.size,2,none⟩=some (.int .i64 d):=(b.cell (p:=⟨w.heap.size,2,none⟩) c).trans (by rw [<-a];simp)
 have u:W.cell? ⟨w.heap.size,3,none⟩=some (.slice aw n2 cw):=(b.cell (p:=⟨w.heap.size,3,none⟩) c).trans (by rw [<-a];simp)
 have o:W.cell? ⟨w.heap.size,4,none⟩=some (.int .i64 nx):=(b.cell (p:=⟨w.heap.size,4,none⟩) c).trans (by rw [<-a];simp)
 have s:W.cell? ⟨w.heap.size+1,0,none⟩=some (.int .i64 m.1):=by rw [<-g,<-s1];simp
 have C:W.cell? ⟨w.heap.size+1,1,none⟩=some (.slice ao m.2.length cap):=by rw [<-g,<-s1];simp
 have h:Hid _:=aw2Z a g
 have A:=Za (Zb i b)
 have q:=Za (fun (B:World) (L:Below W.heap.size W B)=>And.intro ((L.cell (p:=⟨w.heap.size,4,none⟩) (by show w.heap.size<_;omega)).trans o) ((L.cell (p:=⟨w.heap.size+1,0,none⟩) (by show w.heap.size+1<_;omega)).trans s))
 have y:=Za (Zkg n1 n2 am aw ao cm cw cap m.2.length wd d nx W)
 have n:Hid (grB wd nx m=(decide ((m.2.length:Int)=wd) && decide (m.1<nx))):=rfl
 rw [n.out]
 clear i b a g s1 j c n
 generalize decide ((m.2.length:Int)=wd)=r at *
 have x:decide (m.1≥nx)=!decide (m.1<nx):=by rw [Bool.eq_iff_iff];simp
 go_enter Tryz.func112,Tryz.ntmps112
 go_wp2_with fail
 rw [h.out]
 refine y.out.mono ?_
 rintro e F ⟨rfl,k⟩
 obtain⟨E,D⟩:=q.out _ k
 have l:=Za (Zb A.out k)
 clear k q z t v u o s C h
 cases r with
 | false=>
   go_wp2_with fail
   go_ret
   exact⟨rfl,l.out⟩
 | true=>
   go_wp2_with fail
   go_ret
   exact⟨Zd (by simp),l.out⟩
theorem ZoD(n1 n2:Nat)(am aw ao:Option Addr)(cm cw cap:Nat)(wd d nx:Int)(hi:List Mk)(w:World)(hv:Zo w ao hi)(hsh:ZL hi):
 Calls Tryz.prog 154 #[.slice ao hi.length cap,.func (.func 112) #[.agg #[.int .i64 wd,.slice am n1 cm,.int .i64 d,.slice aw n2 cw,.int .i64 nx]] #[]] w fun e w'=>(∃r:Int,e=.returned (.int .i64 r)/\decide (0<=r)=!Ze1 wd nx hi)/\Below w.heap.size w w':=by
 have D:Hid (∀W k a c,Below w.heap.size w W->Zy W a (mat hi k)->Calls Tryz.prog 112 #[.agg #[.int .i64 wd,.slice am n1 cm,.int .i64 d,.slice aw n2 cw,.int .i64 nx],.agg #[.int .i64 (mid hi k),.slice a (mat hi k).length c]] W fun e w'=>e=.returned (.bool (!grB wd nx (ZJ hi k)))/\Below W.heap.size W w'):=fun W k a c _ _=>
  iBars n1 n2 am aw a cm cw c wd d nx (ZJ hi k) W
 have C:=Za hv
 have E:=hsh.1
 clear hv hsh
 go_enter Tryz.func154,Tryz.ntmps154
 go_wp2_with fail
 go_loopw [8] (fun i wr=>∃k:Nat,k<=hi.length/\i=.int .i64 k/\(∀j,j<k->grB wd nx (ZJ hi j)=true)/\Below w.heap.size w wr) (fun i _=>hi.length-(intOf i).toNat)
 case atStart=>exact⟨0,Nat.zero_le _,rfl,fun j t=>by omega,Below.refl _ _⟩
 case round=>
  obtain⟨k,G,rfl,f,L⟩:=hrel
  have q:=Za f
  have p:=Za L
  have l:=C.out.next L
  clear f L
  by_cases hlt:k<hi.length
  · obtain⟨b,B,rfl,F,s⟩:=ZaV.seg l (by omega)
    obtain⟨c0,u,A,c1,n⟩:=s.at (i:=k) hlt
    have o:=Za (D.out wr k u A p.out n)
    clear s l n
    rcases he:grB wd nx (ZJ hi k) with _ | _
    · have v:=Za (Zkr hlt he)
      rw [he] at o
      clear he
      generalize mid hi k=x at *
      generalize (mat hi k).length=xl at *
      go_wp2_with fail
      refine o.out.mono ?_
      rintro e z ⟨rfl,m⟩
      have g:=Za (Zb p.out m)
      clear m
      go_wp2_with fail
      go_ret
      exact⟨⟨(k:Int),rfl,by rw [v.out];simp⟩,g.out⟩
    · rw [he] at o
      have y:=Za he
      clear he
      generalize mid hi k=x at *
      generalize (mat hi k).length=xl at *
      go_wp2_with fail
      refine o.out.mono ?_
      rintro e z ⟨rfl,m⟩
      have g:=Za (Zb p.out m)
      clear m
      go_wp2_with fail
      go_roundw
      case rel=>exact⟨k+1,by omega,by go_num,fun j t=>by
       rcases Nat.lt_or_ge j k with h | h
       · exact q.out j h
       · rw [show j=k by omega];exact y.out,g.out⟩
      case measure=>simp [intOf];omega
  · go_wp2_with fail
    go_ret
    obtain rfl:k=hi.length:=by omega
    exact⟨⟨-1,rfl,by rw [ZiJ q.out];rfl⟩,p.out⟩
theorem Znr(n1 n2:Nat)(am aw ao:Option Addr)(cm cw cap:Nat)(wd d nx:Int)(hi:List Mk)(w:World)(hv:Zo w ao hi)(hsh:ZL hi):
 Calls Tryz.prog 111 #[.slice ao hi.length cap,.func (.func 112) #[.agg #[.int .i64 wd,.slice am n1 cm,.int .i64 d,.slice aw n2 cw,.int .i64 nx]] #[]] w fun e w'=>e=.returned (.bool (!Ze1 wd nx hi))/\Below w.heap.size w w':=by
 have f:=Za (ZoD n1 n2 am aw ao cm cw cap wd d nx hi w hv hsh)
 clear hv
 go_enter Tryz.func111,Tryz.ntmps111
 go_wp2_with fail
 refine f.out.mono ?_
 rintro e g ⟨⟨r,rfl,c⟩,b⟩
 have a:=Za b
 clear b
 go_wp2_with fail
 go_ret
 exact⟨Zd (by rw [<-c]),a.out⟩
theorem Zho{x lo hi:Int}(h:x<lo\/hi<x):inR x lo hi=false:=by
 rw [inR,Bool.and_eq_false_iff]
 rcases h with h | h
 · left;exact decide_eq_false (by omega)
 · right;exact decide_eq_false (by omega)
theorem Zks{x lo hi:Int}(h1:¬x<lo)(h2:¬hi<x):inR x lo hi=true:=by
 rw [inR,Bool.and_eq_true]
 exact⟨decide_eq_true (by omega),decide_eq_true (by omega)⟩
theorem Zns{wd:Int}{ms:List Mk}{d:Int}{ts:List Wb}{nx:Int}(h:inR wd 1 4=false):stB wd ms d ts nx=false:=by rw [stB,h];rfl
theorem Znt{wd:Int}{ms:List Mk}{d:Int}{ts:List Wb}{nx:Int}(h:inR nx 1 1000000=false):stB wd ms d ts nx=false:=by
 rw [stB,h]
 rcases inR wd 1 4 with _ | _ <;> rcases Zt ms with _ | _ <;> rcases Zap d ts with _ | _ <;> rfl
theorem ZiK(am aw:Option Addr)(cm cw:Nat)(wd:Int)(ms:List Mk)(d:Int)(ts:List Wb)(nx:Int)(w:World)(hm:Zo w am ms)(hw:Zp true w aw ts)(hsm:Z0 ms ts)(h1:¬wd<1)(h2:¬4<wd)(h3:¬nx<1)(h4:¬1000000<nx):
 Calls Tryz.prog 68 #[.agg #[.int .i64 wd,.slice am ms.length cm,.int .i64 d,.slice aw ts.length cw,.int .i64 nx]] w fun e w'=>e=.returned (.bool (stB wd ms d ts nx))/\Below w.heap.size w w':=by
 obtain⟨W,Z⟩:∃W,w.alloc (.cells #[.int .i64 wd,.slice am ms.length cm,.int .i64 d,.slice aw ts.length cw,.int .i64 nx] 41)=W:=⟨_,rfl⟩
 have hB:=balZ Z
 have i:ZbA true W w.heap.size am aw cm cw wd ms d ts nx:=by rw [<-Z];exact ZbA.box hm hw
 have U:=Za hB
 have N:=Za i
 have k0:=i.c0
 have k1:=i.c1
 have k4:=i.c4
 have g2:¬wd > 4:=h2
 have g4:¬nx > 1000000:=h4
 have F:=Za (Zg7 am cm ms W i.mv hsm.1)
 have j:=Za (fun (u:World) (L:Below W.heap.size W u)=>Zh9 aw cw d ts u (i.below L).wv hsm.2.1)
 have q:=Za hsm
 have o:Hid (Zap d ts=true->ts.length=4/\Zax (Zi ts 0).1 (Zi ts 0).2=true):=fun h=>by
  rw [Zap,Bool.and_eq_true,Bool.and_eq_true,decide_eq_true_eq,List.all_eq_true] at h
  exact⟨h.2.1,ZcT (h.2.2 0 (by simp))⟩
 obtain⟨b2,m⟩:∃b,Zt ms=b:=⟨_,rfl⟩
 obtain⟨b3,l⟩:∃b,Zap d ts=b:=⟨_,rfl⟩
 have x:Hid (stB wd ms d ts nx=(b2 && (b3 && (Ze1 wd nx (Zi ts 0).1 && ZaR (Zi ts 0).1 ms)))):=by show _=_;rw [stB,Zks h1 h2,Zks h3 h4,<-m,<-l];rfl
 rw [m] at F
 rw [l] at j o
 clear hm hw hsm hB i m l
 go_enter Tryz.func68,Tryz.ntmps68
 go_wp2_with fail
 refine F.out.mono ?_
 rintro e w1 ⟨rfl,L1⟩
 have g:=Za L1
 clear L1 Z k0 k1 k4
 cases b2 with
 | false=>
   go_wp2_with fail
   go_ret
   exact⟨Zd (by rw [x.out];rfl),Zb U.out g.out⟩
 | true=>
 have c2:=(N.out.below g.out).c2
 have K:=(N.out.below g.out).c3
 go_wp2_with fail
 refine (j.out _ g.out).mono ?_
 rintro e M ⟨rfl,L2⟩
 have s:=Za (Zb g.out L2)
 clear L2 g c2 K
 cases b3 with
 | false=>
   go_wp2_with fail
   go_ret
   exact⟨Zd (by rw [x.out];rfl),Zb U.out s.out⟩
 | true=>
 have c:=N.out.below s.out
 have f:=Za (o.out (by trivial)).1
 have B:=Za (ZY (o.out (by trivial)).2)
 obtain⟨b,S,O,J,P,Y,rfl,hb,q0,q1,k,E,-⟩:=c.wv.web (n:=0) (by rw [f.out];omega)
 rw [Nat.zero_mul,Nat.add_zero] at q0 q1
 have c0:=c.c0
 have c1:=c.c1
 have c2:=c.c2
 have K:=c.c3
 have c4:=c.c4
 rw [f.out] at K
 obtain⟨X,Q⟩:∃X,M.heap.size=X:=⟨_,rfl⟩
 obtain⟨V,A⟩:∃V,M.alloc (.cells #[.slice O (Zi ts 0).1.length J,.slice P (Zi ts 0).2.length Y] 158)=V:=⟨_,rfl⟩
 have v:=balZ A
 have y0:V.cell? ⟨X,0,none⟩=some (.slice O (Zi ts 0).1.length J):=by rw [<-A,<-Q];simp
 have y1:V.cell? ⟨X,1,none⟩=some (.slice P (Zi ts 0).2.length Y):=by rw [<-A,<-Q];simp
 have a:=c.below v
 replace c0:=a.c0
 replace c1:=a.c1
 replace c2:=a.c2
 replace C:=a.c3
 replace c4:=a.c4
 rw [f.out] at C
 have I:X<V.heap.size:=by rw [<-A,<-Q];simp
 have R:=Za (Znr ms.length 4 am (some ⟨b,S,none⟩) O cm cw J wd d nx (Zi ts 0).1 V (k.next v) (q.out.2.1.2 0).1)
 have t:=Za (fun (u:World) (L:Below V.heap.size V u)=>Znu O P am none J Y cm 0 0 (Zi ts 0).1 (Zi ts 0).2 ms u (k.next (Zb v L)) (E.next (Zb v L)) B.out (q.out.2.1.2 0).1 ((a.below L).mv) q.out.1)
 have H:=Za (Zb U.out (Zb s.out v))
 have y:=Za a
 have HK:=Za (fun (u:World) (L:Below V.heap.size V u)=>And.intro ((L.cell (p:=⟨X,0,none⟩) I).trans y0) ((L.cell (p:=⟨X,1,none⟩) I).trans y1))
 obtain⟨r,hr⟩:∃r,Ze1 wd nx (Zi ts 0).1=r:=⟨_,rfl⟩
 obtain⟨r2,G⟩:∃r,ZaR (Zi ts 0).1 ms=r:=⟨_,rfl⟩
 rw [hr] at R x
 rw [G] at t x
 clear c a k E v j N B hr G
 generalize (Zi ts 0).1.length=l1 at *
 generalize (Zi ts 0).2.length=l2 at *
 rw [f.out] at *
 go_wp2_with fail
 refine R.out.mono ?_
 rintro e w4 ⟨rfl,D⟩
 obtain⟨u0,u1⟩:=HK.out _ D
 have d1:=(y.out.below D).c1
 have z:=Za D
 have HD:=Za (t.out _ D)
 clear D A y0 y1 c0 c1 c2 K C c4 q0 q1 HK y t R
 cases r with
 | false=>
   go_wp2_with fail
   go_ret
   exact⟨Zd (by rw [x.out];rfl),Zb H.out z.out⟩
 | true=>
 go_wp2_with fail
 refine HD.out.mono ?_
 rintro e w5 ⟨rfl,L5⟩
 have T:=Za (Zb z.out L5)
 clear L5 u0 u1 d1
 go_wp2_with fail
 go_ret
 exact⟨Zd (by rw [x.out];rfl),Zb H.out T.out⟩
theorem Zfs(am aw:Option Addr)(cm cw:Nat)(wd:Int)(ms:List Mk)(d:Int)(ts:List Wb)(nx:Int)(w:World)(hm:Zo w am ms)(hw:Zp true w aw ts)(hsm:Z0 ms ts):
 Calls Tryz.prog 68 #[.agg #[.int .i64 wd,.slice am ms.length cm,.int .i64 d,.slice aw ts.length cw,.int .i64 nx]] w fun e w'=>e=.returned (.bool (stB wd ms d ts nx))/\Below w.heap.size w w':=by
 by_cases hbad:wd<1\/4<wd\/nx<1\/1000000<nx
 · obtain⟨W,c⟩:∃W,w.alloc (.cells #[.int .i64 wd,.slice am ms.length cm,.int .i64 d,.slice aw ts.length cw,.int .i64 nx] 41)=W:=⟨_,rfl⟩
   have f:=balZ c
   have b:ZbA true W w.heap.size am aw cm cw wd ms d ts nx:=by rw [<-c];exact ZbA.box hm hw
   have a:=Za f
   have j:=b.c0
   have i:=b.c4
   have g:Hid (stB wd ms d ts nx=false):=by
    show _=_
    rcases hbad with h | h | h | h
    · exact Zns (Zho (Or.inl h))
    · exact Zns (Zho (Or.inr h))
    · exact Znt (Zho (Or.inl h))
    · exact Znt (Zho (Or.inr h))
   rw [g.out]
   clear hm hw hsm f b g
   by_cases h1:wd<1
   · clear hbad
     go_enter Tryz.func68,Tryz.ntmps68
     go_wp2_with fail
     go_ret
     exact⟨rfl,a.out⟩
   by_cases h2:wd > 4
   · clear hbad
     go_enter Tryz.func68,Tryz.ntmps68
     go_wp2_with fail
     go_ret
     exact⟨rfl,a.out⟩
   by_cases h3:nx<1
   · clear hbad
     go_enter Tryz.func68,Tryz.ntmps68
     go_wp2_with fail
     go_ret
     exact⟨rfl,a.out⟩
   have k:nx > 1000000:=by omega
   clear hbad
   go_enter Tryz.func68,Tryz.ntmps68
   go_wp2_with fail
   go_ret
   exact⟨rfl,a.out⟩
 · exact ZiK am aw cm cw wd ms d ts nx w hm hw hsm (by omega) (by omega) (by omega) (by omega)
theorem ZaY{wd:Int}{ms:List Mk}{d:Int}{ts:List Wb}{nx:Int}(h:stB wd ms d ts nx=true):Zt ms=true/\Zap d ts=true/\Ze1 wd nx (Zi ts 0).1=true/\ZaR (Zi ts 0).1 ms=true:=by
 simp only [stB,Bool.and_eq_true] at h
 exact⟨h.2.1,h.2.2.1,h.2.2.2.2.1,h.2.2.2.2.2⟩
def StV(w:World)(v:Value)(wd:Int)(ms:List Mk)(d:Int)(ts:List Wb)(nx:Int):Prop:=∃am cm aw cw,v=.agg #[.int .i64 wd,.slice am ms.length cm,.int .i64 d,.slice aw ts.length cw,.int .i64 nx]/\Zo w am ms/\Zp true w aw ts
theorem StV.next{w w':World}{v:Value}{wd:Int}{ms:List Mk}{d:Int}{ts:List Wb}{nx:Int}(h:StV w v wd ms d ts nx)(L:Below w.heap.size w w'):StV w' v wd ms d ts nx:=by
 obtain⟨i,a,f,c,e,b,g⟩:=h
 exact⟨i,a,f,c,e,b.next L,g.next L⟩
def Em(w:World)(aw:Option Addr)(ts:List Wb):Prop:=(aw=none/\ts=[])\/∃b,aw=some ⟨b,0,none⟩/\ts=emp4/\New4 w b
theorem Em.small{w:World}{aw:Option Addr}{ts:List Wb}(h:Em w aw ts):Z0 [] ts:=by
 refine⟨⟨by simp,fun i=>by simp [mat]⟩,?_,?_⟩
 · rcases h with h | ⟨b,h1,h2,h3⟩
   · rw [h.2];exact⟨by simp,fun i=>by simp [Zi,ZL,Z7,mat,cn]⟩
   · rw [h2];exact Zi6
 · rcases h with h | ⟨b,h1,h2,h3⟩
   · rw [h.2];decide
   · rw [h2];decide
end Go.Proofs.YtilkaeclgmcolaaGreat
namespace Go.Proofs.YtilkaeclgmcolaaGreat
open Go Go.RowKit Go.Deep
theorem ZpN{α :Type}{cs:Array α}(h:cs.size=5):∃c0 c1 c2 c3 c4,cs=#[c0,c1,c2,c3,c4]:=by
 obtain⟨l⟩:=cs
 match l,h with
 | [c0,c1,c2,c3,c4],_=>exact⟨c0,c1,c2,c3,c4,rfl⟩
theorem Zi4{H:Type}{enc:TypeId×Value->H}{W:World}{n:Nat}{cs:Array Value}{x:DataW H×List MemPlace}(hs:cs.size=5)(h:DataW.trod enc Tryz.prog W 0 (fun _=>true) true n 27 cs.toList=some x):
 ∃(wd:Int) (ms:List Mk) (d:Int) (ts:List Wb) (nx:Int) (am:Option Addr) (cm:Nat) (aw:Option Addr) (cw:Nat),cs=#[.int .i64 wd,.slice am ms.length cm,.int .i64 d,.slice aw ts.length cw,.int .i64 nx]/\Zo W am ms/\Zp false W aw ts/\ZeF ms ts:=by
 obtain⟨u0,u1,u2,u3,u4,rfl⟩:=ZpN hs
 obtain⟨B,t,r,A,m,_,C,l,g,k,i⟩:=Go.Joins.trod_struct4 Tryz.underlying27 h
 have y:Tryz.prog.cellsOf 2=1:=by kernel_rfl
 have q:Tryz.prog.cellsOf 22=1:=by kernel_rfl
 have v:Tryz.prog.cellsOf 25=2:=by kernel_rfl
 simp only [y,q,v] at l g k i
 obtain⟨z,j,_,_⟩:=DataW.trod_int Tryz.underlying2 (by simpa using l)
 simp at j
 obtain⟨w,b,_,_⟩:=DataW.trod_int Tryz.underlying2 (by simpa using i)
 simp at b
 have c:DataW.trod enc Tryz.prog W 0 (fun _=>true) true m 22 [u1]=some t:=by simpa using g
 obtain⟨am,cm,ms,rfl,s,u,e⟩:=ZgO c
 have f:DataW.trod enc Tryz.prog W 0 (fun _=>true) true m 25 (#[u2,u3]:Array Value).toList=some r:=by simpa using k
 obtain⟨d,ts,aw,cw,a,p,o⟩:=ZjU rfl f
 injection a with a
 injection a with he2 a
 injection a with he3 a
 subst j b he2 he3
 exact⟨z,ms,d,ts,w,am,cm,aw,cw,rfl,s,p,u,e,o⟩
end Go.Proofs.YtilkaeclgmcolaaGreat
