import Derived.Test.YtilkaeclgmcolaaGreatSCellsZz
import Derived.Test.YtilkaeclgmcolaaGreatFeWalkZz
import Derived.Deep.CutRange
import Derived.Deep.CutBlock
import Derived.Deep.LoopGhost
import Derived.Test.YtilkaeclgmcolaaGreatFgRowZz
import Derived.Test.YtilkaeclgmcolaaGreatFg0Zz
import Derived.Test.YtilkaeclgmcolaaGreatHM9Zz
import Derived.Test.YtilkaeclgmcolaaGreatMArgsZz
import Derived.Test.YtilkaeclgmcolaaGreatFeHelpZz
import Derived.Test.YtilkaeclgmcolaaGreatFeHmZz
import Derived.Test.YtilkaeclgmcolaaGreatMMarkZz
import Derived.Test.YtilkaeclgmcolaaGreatTwArgsZz
import Derived.Test.YtilkaeclgmcolaaGreatTwOkZz
import Derived.Test.YtilkaeclgmcolaaGreatBMarkZz
import Derived.Test.YtilkaeclgmcolaaGreatDkOkZz
set_option maxRecDepth 100000
set_option maxHeartbeats 20000000
namespace Go.Proofs.YtilkaeclgmcolaaGreat
open Go Go.RowKit
theorem ZfV{g:Nat}{w w1 w2:World}(hg:w.heap.size=g)(h:Below g w w1)(L:Below w1.heap.size w1 w2):Below g w w2:=by subst hg;exact Zb h L
theorem Zaw.low{base base':Nat}{w:World}{g k:Nat}{ms:List Mk}{G cc:Nat->Nat}{lo hi:Nat}(h:Zaw base w g k ms G cc lo hi)(hb:base'<=base):Zaw base' w g k ms G cc lo hi:=
 ⟨h.blk,fun i hi'=>(h.rows i hi').mono hb,h.rise,h.within,h.top,Nat.le_trans hb h.ge,h.out⟩
theorem NM.low{base base':Nat}{w:World}{g n:Nat}{V:Nat->Value}{X:Nat->List Int}{lo:Nat}(h:NM base w g n V X lo)(hb:base'<=base):NM base' w g n V X lo:=
 ⟨h.blk,h.own,h.apart,Nat.le_trans hb h.ge,h.out,h.top⟩
def ZdN(base:Nat)(w:World)(g gl:Nat)(ms:List Mk)(X:Nat->List Int)(n:Nat):Prop:=∃G cc V lo hi up,Zaw base w g ms.length ms G cc lo hi/\NM base w gl n V X up/\g≠gl/\(gl<lo\/hi<=gl)/\hi<=up
theorem Zkl(am:Option Addr)(cm:Nat)(ms:List Mk)(w:World)(hm:Zo w am ms)(hmb:Zt ms=true)(hsm:ZL ms):
 Calls Tryz.prog 126 #[.slice am ms.length cm,.func (.func 127) #[] #[]] w fun e w'=>∃g,e=.returned (.slice (some ⟨g,0,none⟩) ms.length ms.length)/\(∃G cc lo hi,Zaw w.heap.size w' g ms.length ms G cc lo hi)/\Below w.heap.size w w':=by
 have J:=ZF hmb
 obtain⟨W,y⟩:∃W,w.alloc (.cells (madeCells #[.int .i64 0,.slice none 0 0] (ms.length*2)) 161)=W:=⟨_,rfl⟩
 have R:=balZ y
 have S:=salZ y
 have hF:FB W w.heap.size (ms.length*2) Zgz 161:=by rw [<-y];exact FB.madeM w _ _
 have o:∀A:World,(Instr.makeSlice 36 (.int .i64 (ms.length:Int)) (.int .i64 (ms.length:Int))).run Tryz.prog A=.ok (.slice (some ⟨A.heap.size,0,none⟩) ms.length ms.length) (A.alloc (.cells (madeCells #[.int .i64 0,.slice none 0 0] (ms.length*2)) 161)):=fun A=>Zai (P:=Tryz.prog) 36 161 (.agg #[.int .i64 0,.slice none 0 0]) 2 32 Tryz.underlying36 Tryz.info161 .i64 .i64 ms.length (by omega) (by omega) A
 have HM:=Za hm
 have l:=Za hmb
 have HB:=Za R
 have t:=Za (Zaw.start (base:=w.heap.size) (ms:=ms) hF (Nat.le_refl _))
 have z:=Za S
 have V:=Za y
 clear hm hmb R S hF y J
 go_enter Tryz.func126,Tryz.ntmps126
 go_wp2_with fail
 clear o
 rw [V.out]
 obtain⟨g,H⟩:∃g,w.heap.size=g:=⟨_,rfl⟩
 have D:=Za H
 rw [H] at t HB z ⊢
 clear H V
 go_loopg [13] ms.length (fun gk iv wr=>∃(k:Nat) (G cc:Nat->Nat) (hi:Nat),k<=ms.length/\ms.length-k<=gk/\iv=.int .i64 k/\Zaw g wr g k ms G cc W.heap.size hi/\W.heap.size<=wr.heap.size/\Below g w wr)
 case atStart=>exact⟨0,_,_,_,Nat.zero_le _,Nat.sub_le _ _,rfl,t.out,Nat.le_refl _,HB.out⟩
 case round=>
  obtain⟨k,G,cc,hi,hk,a6,rfl,N,E,L⟩:=hrel
  have HP:=Za N
  have U:=Za L
  have h:Zo wr am ms:=HM.out.next (by rw [D.out];exact L)
  clear N L
  by_cases hlt:k<ms.length
  · obtain⟨mb,mo,rfl,M,u⟩:=ZaV.seg h (by omega)
    obtain⟨c0,F,I,c1,x⟩:=u.at (i:=k) hlt
    have O:=ZF l.out
    have a9:=n0Z k
    have a5:(k:Int)<(ms.length:Int):=by omega
    obtain⟨d,n⟩:∃d,wr.alloc (.cells #[.int .i64 (mid ms k),.slice F (mat ms k).length I] 161)=d:=⟨_,rfl⟩
    have m:=balZ n
    have Q:d.cell? ⟨wr.heap.size,0,none⟩=some (.int .i64 (mid ms k)):=by rw [<-n];simp
    have X:d.cell? ⟨wr.heap.size,1,none⟩=some (.slice F (mat ms k).length I):=by rw [<-n];simp
    have f:=Za (HP.out.next m)
    have q:=Za (ZfV D.out U.out m)
    have B:=Za (ZmE (mid ms k,F,I,mat ms k) d (x.next m) (by have:=((ZZ _ _).1 (Zam l.out hlt)).2.2.1;exact (ZaP this).1) (hsm.2 k))
    have c:W.heap.size<=d.heap.size:=Nat.le_trans E m.size
    have K:g<=d.heap.size:=by have:=z.out;omega
    clear u x h m
    obtain⟨id,b⟩:∃id,mid ms k=id:=⟨_,rfl⟩
    obtain⟨C,a⟩:∃C,(mat ms k).length=C:=⟨_,rfl⟩
    have v:=Za (And.intro b a)
    simp only at B
    rw [b,a] at B
    rw [a] at X
    rw [b] at Q c0
    rw [a] at c1
    rw [b,a] at n
    clear b a
    go_wp2_with fail
    clear n c0 c1
    refine B.out.mono ?_
    rintro e Y ⟨h3,T,rfl,s,p⟩
    have r:=Za (f.out.step p s K c)
    have j:=f.out.next p
    have f0:=j.blk.frozen (k*2)
    have f1:=j.blk.frozen (k*2+1)
    have e0:=j.blk.cell (i:=k*2) (by omega)
    have e1:=j.blk.cell (i:=k*2+1) (by omega)
    have a7:=j.blk.lt
    have Z:Hid (Below g w ((Y.setCell ⟨g,k*2,none⟩ (.int .i64 id)).setCell ⟨g,k*2+1,none⟩ (.slice (some ⟨h3,0,none⟩) C T))/\W.heap.size<=((Y.setCell ⟨g,k*2,none⟩ (.int .i64 id)).setCell ⟨g,k*2+1,none⟩ (.slice (some ⟨h3,0,none⟩) C T)).heap.size):=
     ⟨((ZfV D.out q.out p).setCell (by show g<=g;exact Nat.le_refl _) _).setCell (by show g<=g;exact Nat.le_refl _) _,by rw [Ze,Ze];exact Nat.le_trans c p.size⟩
    rw [v.out.1,v.out.2] at r
    clear s p j f q B Q X
    go_wp2_with fail
    go_roundg (ms.length-(k+1))
    case rel=>exact⟨k+1,_,_,_,by omega,Nat.le_refl _,by go_num,r.out,Z.out.2,Z.out.1⟩
    case measure=>omega
  · obtain rfl:k=ms.length:=by omega
    have a8:¬((ms.length:Int)<(ms.length:Int)):=by omega
    clear h
    go_wp2_with fail
    go_ret
    rw [D.out]
    exact⟨g,rfl,⟨G,cc,_,hi,HP.out⟩,U.out⟩
theorem Zoa(al:Option Addr)(cl:Nat)(ls:List (List Int))(w:World)(hl:ZS w al ls)(hcs:Z7 ls):
 Calls Tryz.prog 190 #[.slice al ls.length cl,.func (.func 166) #[] #[]] w fun e w'=>∃g,e=.returned (.slice (some ⟨g,0,none⟩) ls.length ls.length)/\(∃V lo,NM w.heap.size w' g ls.length V (cn ls) lo)/\Below w.heap.size w w':=by
 have a1:=hcs.1
 obtain⟨W,v⟩:∃W,w.alloc (.cells (madeCells #[.slice none 0 0] ls.length) 31)=W:=⟨_,rfl⟩
 have F:=balZ v
 have H:=salZ v
 have Q:FB W w.heap.size ls.length (fun _=>.slice none 0 0) 31:=by rw [<-v];have:=FB.madeL w ls.length 31;rw [Nat.mul_one] at this;exact this
 have o:∀y:World,(Instr.makeSlice 156 (.int .i64 (ls.length:Int)) (.int .i64 (ls.length:Int))).run Tryz.prog y=.ok (.slice (some ⟨y.heap.size,0,none⟩) ls.length ls.length) (y.alloc (.cells (madeCells #[.slice none 0 0] ls.length) 31)):=fun y=>by have h:=Zai (P:=Tryz.prog) 156 31 (.slice none 0 0) 1 24 Tryz.underlying156 Tryz.info31 .i64 .i64 ls.length (by omega) (by omega) y;rw [Nat.mul_one] at h;exact h
 have D:=Za hl
 have O:=Za F
 have x:=Za (NM.start (base:=w.heap.size) Q (Nat.le_refl _) (lo:=W.heap.size) (by omega) (Nat.le_refl _))
 have E:=Za H
 have K:=Za v
 clear hl F H Q v
 go_enter Tryz.func190,Tryz.ntmps190
 go_wp2_with fail
 clear o
 rw [K.out]
 obtain⟨g,B⟩:∃g,w.heap.size=g:=⟨_,rfl⟩
 have C:=Za B
 rw [B] at x O E ⊢
 clear B K
 go_loopw [13] (fun A N=>∃(j:Nat) (V:Nat->Value),j<=ls.length/\A=.int .i64 j/\NM g N g ls.length V (fun i=>if i<j then cn ls i else []) W.heap.size/\(∀i,j<=i->V i=.slice none 0 0)/\Below g w N) (fun A _=>ls.length-(intOf A).toNat)
 case atStart=>exact⟨0,_,Nat.zero_le _,rfl,x.out.congr (fun i _=>by rw [if_neg (by omega)]),fun _ _=>rfl,O.out⟩
 case round=>
  obtain⟨j,V,hj,rfl,s,t,L⟩:=hrel
  have b:=Za s
  have r:=Za t
  have m:=Za L
  have n:ZS wr al ls:=D.out.next (by rw [C.out];exact L)
  clear s t L
  by_cases hjl:j<ls.length
  · obtain⟨lb,a0,rfl,T,l⟩:=n.seg (by omega)
    obtain⟨a,c,S,u⟩:=l j hjl
    have U:=n0Z j
    have X:(j:Int)<(ls.length:Int):=by omega
    have I:=Za (Zob a c (cn ls j) wr u (hcs.2 j))
    clear l u n
    go_wp2_with fail
    clear S
    refine I.out.mono ?_
    rintro e M ⟨v3,rfl,d,f⟩
    obtain⟨G,J,rfl,-⟩:=Zcm d
    have z:=Za (b.out.put hjl (w':=M) (Zjv d b.out.top) ⟨f.os,f.tape,f.output,f.size,fun k R _=>f.block k R⟩ (by
     rcases eq:(Value.slice G (cn ls j).length J).ownBlock with _ | q
     · exact Or.inl rfl
     · exact Or.inr (Or.inr ⟨q,rfl,(Zaq d eq).1⟩)))
    have f0:=(b.out.next f).blk.frozen j
    have e0:=(b.out.next f).blk.cell (i:=j) hjl
    rw [r.out j (Nat.le_refl _)] at e0
    have Z:Hid (Below g w (M.setCell ⟨g,j,none⟩ (.slice G (cn ls j).length J))):=(ZfV C.out m.out f).setCell (by show g<=g;exact Nat.le_refl _) _
    clear d f b m I
    go_wp2_with fail
    go_roundw
    case rel=>exact⟨j+1,_,by omega,by go_num,z.out.congr (fun i _=>by
     simp only [Zew]
     by_cases e:i=j
     · rw [if_pos e,if_pos (by omega),e]
     · rw [if_neg e]
       by_cases e2:i<j
       · rw [if_pos e2,if_pos (by omega)]
       · rw [if_neg e2,if_neg (by omega)]),fun i p=>by
     unfold ZaX
     rw [if_neg (by omega)]
     exact r.out i (by omega),Z.out⟩
    case measure=>simp [intOf];omega
  · obtain rfl:j=ls.length:=by omega
    have a4:¬((ls.length:Int)<(ls.length:Int)):=by omega
    clear n
    go_wp2_with fail
    go_ret
    rw [C.out]
    exact⟨g,rfl,⟨V,_,b.out.congr (Y:=cn ls) (fun i p=>by rw [if_pos p])⟩,m.out⟩
theorem Zkm(am al:Option Addr)(cm cl:Nat)(ms:List Mk)(ls:List (List Int))(w:World)(hm:Zo w am ms)(hl:ZS w al ls)(hmb:Zt ms=true)(hsm:ZL ms)(hcs:Z7 ls):
 Calls Tryz.prog 168 #[.agg #[.slice am ms.length cm,.slice al ls.length cl]] w fun e w'=>∃g gl,e=.returned (.agg #[.slice (some ⟨g,0,none⟩) ms.length ms.length,.slice (some ⟨gl,0,none⟩) ls.length ls.length])/\ZdN w.heap.size w' g gl ms (cn ls) ls.length/\Below w.heap.size w w':=by
 obtain⟨b,f⟩:∃W,w.alloc (.cells #[.slice am ms.length cm,.slice al ls.length cl] 158)=W:=⟨_,rfl⟩
 have t:=balZ f
 have J:Two b w.heap.size (.slice am ms.length cm) (.slice al ls.length cl) 158:=by rw [<-f];exact Two.new w _ _ _
 obtain⟨W,q⟩:∃W,b.alloc (.cells #[.slice none 0 0,.slice none 0 0] 158)=W:=⟨_,rfl⟩
 have Y:=balZ q
 have s1:=salZ f
 have s2:W.heap.size=w.heap.size+1+1:=by rw [<-q];simp [s1]
 have X:Two W (w.heap.size+1) (.slice none 0 0) (.slice none 0 0) 158:=by rw [<-q,<-s1];exact Two.new b _ _ _
 have HZ:=Za (And.intro s1 s2)
 have M:=Za t
 have HR:=Za X
 have HS:Hid (∀a,Below b.heap.size b a->a.cell? ⟨w.heap.size,0,none⟩=some (.slice am ms.length cm)/\a.cell? ⟨w.heap.size,1,none⟩=some (.slice al ls.length cl)):=fun a L=>⟨(J.below L).c0,(J.below L).c1⟩
 have F:Hid (∀a,Below b.heap.size b a->Calls Tryz.prog 126 #[.slice am ms.length cm,.func (.func 127) #[] #[]] a fun e w'=>∃g,e=.returned (.slice (some ⟨g,0,none⟩) ms.length ms.length)/\(∃G u j y,Zaw a.heap.size w' g ms.length ms G u j y)/\Below a.heap.size a w'):=fun a L=>Zkl am cm ms a (hm.next (Zb t L)) hmb hsm
 have A:Hid (∀a,Below b.heap.size b a->Calls Tryz.prog 190 #[.slice al ls.length cl,.func (.func 166) #[] #[]] a fun e w'=>∃g,e=.returned (.slice (some ⟨g,0,none⟩) ls.length ls.length)/\(∃V j,NM a.heap.size w' g ls.length V (cn ls) j)/\Below a.heap.size a w'):=fun a L=>Zoa al cl ls a (hl.next (Zb t L)) hcs
 have N:=Za Y.drew
 have BW:=Za ((Below.refl W.heap.size W).drew)
 have l:Hid _:=aw2Z f q
 clear hm hl s1 s2 t Y J X q f hsm hmb hcs
 go_enter Tryz.func168,Tryz.ntmps168
 go_upto_region 1 with fail
 rw [l.out]
 clear l
 refine Zl (S:=fun a=>Below b.heap.size b a) (fuel:=4) [0,1,3,4] (by kernel_rfl) (by kernel_rfl) (by kernel_rfl) (by kernel_rfl) N.out (fun _=>?_)
 iterate 4 (refine⟨_,rfl,?_⟩;apply Exists.intro;refine⟨Or.inl ⟨by rfl,fun w' s=>?_⟩,?_⟩;(focus (obtain⟨e0,e1⟩:=HS.out w' s;go_simp<;>with_reducible rfl));simp only [Act.put,tkgZ])
 refine Zc 2 (by kernel_rfl) rfl (fun K h=>?_)
 go_simp
 refine (F.out _ N.out).mono ?_
 rintro e v2 ⟨g,rfl,⟨G,u,j,y,k⟩,C⟩
 have P:=Zb N.out C
 have r:=Zb BW.out C
 refine h.out _ _ P (fun _=>?_)
 clear h K C
 refine Zc 5 (by kernel_rfl) rfl (fun K h=>?_)
 go_simp
 refine (A.out _ P).mono ?_
 rintro e v5 ⟨gl,rfl,⟨V,T,z⟩,x⟩
 have O:=Zb P x
 have E:=Zb r x
 have n:=k.next x
 refine h.out _ _ O (fun _=>?_)
 clear h K x
 have c:=HR.out.below E
 have aa:w.heap.size+1<W.drew.heap.size:=by show _<W.heap.size;have:=HZ.out.2;omega
 have a5:W.drew.heap.size<=v2.heap.size:=r.size
 have a4:b.heap.size=w.heap.size+1:=HZ.out.1
 have a2:=k.top
 have Q:=k.blk.lt
 have a9:=k.ge
 have Z:=k.out
 have U:=z.ge
 have I:=z.out
 have B:g≠gl:=by omega
 have r0:=c.c0
 have r1:=c.c1
 have f0:=c.frozen 0
 have f1:=c.frozen 1
 refine Zz 1 [6] (by kernel_rfl) (by kernel_rfl) (by kernel_rfl) O ?_
 iterate 1
  refine⟨_,rfl,?_⟩
  apply Exists.intro
  refine⟨Or.inl ⟨by rfl,fun w' s=>?_⟩,?_⟩
  · first
    | (go_simp;done)
    | (go_simp;with_reducible rfl)
  simp only [Act.put,tkgZ]
 refine Zc 7 (by kernel_rfl) rfl (fun K h=>?_)
 go_simp
 obtain⟨i,d⟩:∃i,(v5.setCell ⟨w.heap.size+1,0,none⟩ (.slice (some ⟨g,0,none⟩) ms.length ms.length)).setCell ⟨w.heap.size+1,1,none⟩ (.slice (some ⟨gl,0,none⟩) ls.length ls.length)=i:=⟨_,rfl⟩
 have m:b.heap.size<=w.heap.size+1:=by omega
 have D:Below b.heap.size b i:=by rw [<-d];exact (O.setCell m _).setCell m _
 have H:Two i (w.heap.size+1) (.slice (some ⟨g,0,none⟩) ms.length ms.length) (.slice (some ⟨gl,0,none⟩) ls.length ls.length) 158:=by rw [<-d];exact (c.set0 _).set1 _
 have R:w.heap.size+1<j:=by omega
 have o:Zaw w.heap.size i g ms.length ms G u j y:=by rw [<-d];exact ((n.far (by omega) (Or.inl (by omega)) _ _).far (by omega) (Or.inl (by omega)) _ _).low (by omega)
 have p:NM w.heap.size i gl ls.length V (cn ls) T:=by rw [<-d];exact ((z.far (by omega) (by omega) _ _).far (by omega) (by omega) _ _).low (by omega)
 rw [d]
 have z0:=H.c0
 have z1:=H.c1
 have HF:Hid (ZdN w.heap.size i g gl ms (cn ls) ls.length/\Below w.heap.size w i):=⟨⟨G,u,V,j,y,T,o,p,B,Or.inr (by omega),by omega⟩,Zb M.out D⟩
 refine h.out _ _ D (fun _=>?_)
 clear h K d H D r0 r1 f0 f1 c n k z o p
 refine wpAnyH_done (by kernel_rfl) ?_ _
 refine NoPanic.normal ?_
 try simp only [Exit.then]
 go_wp2_with fail
 refine bodyPost_ret (v:=.agg #[.slice (some ⟨g,0,none⟩) ms.length ms.length,.slice (some ⟨gl,0,none⟩) ls.length ls.length]) (by simp [results,Tryz.results168,go_sem,z0,z1]) rfl ?_
 exact⟨g,gl,rfl,HF.out.1,HF.out.2⟩
structure Zbo(gl n:Nat)(V V':Nat->Value)(w w':World):Prop where
 os:w'.os=w.os
 tape:w'.tape=w.tape
 output:w'.output=w.output
 size:w.heap.size<=w'.heap.size
 block:∀b,b<w.heap.size->b≠gl->(∀i,i<n->(V i).ownBlock≠some b)->w'.heap[b]? =w.heap[b]?
 fresh:∀i,i<n->∀q,(V' i).ownBlock=some q->(∃k,k<n/\(V k).ownBlock=some q)\/w.heap.size<=q
theorem Ziq{xs:List Int}{x:Int}(hx:x ∉ xs):(xs.map (Value.int .i64)).take (Zc6 x xs)++Value.int .i64 x::(xs.map (Value.int .i64)).drop (Zc6 x xs)=(ZaA xs x).map (Value.int .i64):=by
 rw [Zmt x hx,List.map_append,List.map_cons,List.map_take,List.map_drop]
theorem ZoK(base gl n cl cm lo:Nat)(am:Option Addr)(ms:List Mk)(V:Nat->Value)(X:Nat->List Int)(id other:Int)(w:World)(hm:Zo w am ms)(hmb:Zt ms=true)(hf:0<=ZC ms id)(hn:NM base w gl n V X lo)(hj:ZD ms id<n)(hr:(X (ZD ms id)).Pairwise (fun a b=>a<b))(hx:other ∉ X (ZD ms id))(hl:(X (ZD ms id)).length<=1000):
 Calls Tryz.prog 197 #[.agg #[.slice am ms.length cm,.slice (some ⟨gl,0,none⟩) n cl],.int .i64 id,.int .i64 other] w fun e w'=>e=.returned (.tuple #[])/\(∃V',NM base w' gl n V' (Zew X (ZD ms id) (ZaA (X (ZD ms id)) other)) lo/\Zbo gl n V V' w w'):=by
 obtain⟨W,hW⟩:∃W,w.alloc (.cells #[.slice am ms.length cm,.slice (some ⟨gl,0,none⟩) n cl] 158)=W:=⟨_,rfl⟩
 have hB:=balZ hW
 have x0:W.cell? ⟨w.heap.size,0,none⟩=some (.slice am ms.length cm):=by rw [<-hW];simp
 have Z:W.cell? ⟨w.heap.size,1,none⟩=some (.slice (some ⟨gl,0,none⟩) n cl):=by rw [<-hW];simp
 have E:=altZ hW
 have HP:=Za (Zja am (some ⟨gl,0,none⟩) cm n cl ms id W (hm.next hB) hmb)
 have a0:=Zg4 hmb hf
 rw [a0,decide_eq_true hf] at HP
 obtain⟨j,af⟩:∃j,ZD ms id=j:=⟨_,rfl⟩
 rw [af] at HP hj hr hx hl ⊢
 have HN:=Za (hn.next hB)
 have HB:=Za hB
 have ap:=Za hr
 have a6:=Za hx
 have aN:=n0Z j
 have aF:(j:Int)<(n:Int):=by omega
 have ax:=hn.top
 have D:Hid (∀q,(V j).ownBlock=some q->lo<=q/\q<w.heap.size):=fun q e=>Zaq (hn.own j hj) e
 clear hm hmb hf hn hB a0 af hr hx
 go_enter Tryz.func197,Tryz.ntmps197
 go_wp2_with fail
 refine HP.out.mono ?_
 rintro e w1 ⟨rfl,U⟩
 replace x0:=(U.cell (p:=⟨w.heap.size,0,none⟩) E).trans x0
 replace Z:=(U.cell (p:=⟨w.heap.size,1,none⟩) E).trans Z
 have o:w.heap.size<w1.heap.size:=Nat.lt_of_lt_of_le E U.size
 have x:=HN.out.next U
 obtain⟨a,c,ev,a9⟩:=Zcm (x.own j hj)
 have c1:=x.blk.cell hj
 rw [ev] at c1
 have t:=Za ev
 have a1:=Za x
 have a4:=Za (Zb HB.out U)
 have a8:=Za (iBsI a c (X j) other w1 a9 ap.out (by omega))
 have N:=x.blk.lt
 clear U x a9 ev HP HN hW E
 go_wp2_with fail
 refine a8.out.mono ?_
 rintro e f ⟨⟨fb,rfl⟩,Q⟩
 replace x0:=(Q.cell (p:=⟨w.heap.size,0,none⟩) o).trans x0
 replace Z:=(Q.cell (p:=⟨w.heap.size,1,none⟩) o).trans Z
 have aa:w.heap.size<f.heap.size:=Nat.lt_of_lt_of_le o Q.size
 have C:=Za (a1.out.next Q)
 have u:=Za (Zb a4.out Q)
 replace c1:=(Q.cell (p:=⟨gl,j,none⟩) N).trans c1
 have a7:=Zka other (X j)
 clear Q a1 a4 a8 o N
 generalize hpp:Zc6 other (X j)=pp at *
 have a2:=Za hpp
 clear hpp
 obtain⟨B,P⟩:∃B,(X j).length=B:=⟨_,rfl⟩
 have m:=Za P
 rw [P] at c1 a7 hl t
 clear P
 go_wp2_with fail
 have s:Hid (∀W',f.grownBy W' (V j).ownBlock->W'.cell? ⟨w.heap.size,1,none⟩=some (.slice (some ⟨gl,0,none⟩) n cl)/\W'.cell? ⟨gl,j,none⟩=some (.slice a B c)):=fun W' hg=>by
  have ad:=C.out.blk.lt
  have aD:=C.out.out
  exact⟨(World.cell?_of_block (a:=⟨w.heap.size,1,none⟩) (hg.block w.heap.size aa (fun e=>by have:=D.out _ e.symm;omega))).trans Z,(World.cell?_of_block (a:=⟨gl,j,none⟩) (hg.block gl ad (fun e=>by have:=D.out _ e.symm;omega))).trans c1⟩
 have T:Below f.heap.size f f.drew:=(Below.refl _ _).drew
 have GD:f.grownBy f.drew (V j).ownBlock:=⟨T.os,T.tape,T.output,T.size,fun k Y _=>T.block k Y⟩
 obtain⟨A,F⟩:∃A,f.drew.alloc (.cells #[.int .i64 other] 2)=A:=⟨_,rfl⟩
 have R:Below f.heap.size f A:=by rw [<-F];exact T.alloc (by show f.heap.size<=f.drew.heap.size;exact Nat.le_refl _) _
 have M:f.grownBy A (V j).ownBlock:=⟨R.os,R.tape,R.output,R.size,fun k Y _=>R.block k Y⟩
 have hO:One A f.heap.size (.int .i64 other) 2:=by rw [<-F];exact heap_alloc_new f.drew _
 have aM:f.heap.size<A.heap.size:=by rw [<-F];simp
 have l:=Za (C.out.next R)
 have r:=l.out.own j hj
 rw [t.out] at r
 have O:=Za (Zmr lo c pp f.heap.size a ((X j).map (Value.int .i64)) (.int .i64 other) A (fun v hv=>by obtain⟨y,-,rfl⟩:=List.mem_map.1 hv;rfl) rfl (by rw [List.length_map,m.out];rw [m.out] at r;exact r) hO (by rw [List.length_map,m.out,<-t.out];exact fun e=>by have:=D.out _ e;omega) (by rw [List.length_map,m.out];exact a7) (by rw [List.length_map,m.out];omega) l.out.top)
 rw [List.length_map,m.out,<-t.out] at O
 have H:Hid (Calls Tryz.prog 217 #[.slice a B c,.int .i64 pp,.slice (some ⟨f.heap.size,0,none⟩) 1 1] A fun e w'=>∃g G,e=.returned (.slice (some ⟨g,0,none⟩) (B+1) G)/\Zbd lo w' g G (((X j).map (Value.int .i64)).take pp++Value.int .i64 other::((X j).map (Value.int .i64)).drop pp)/\A.grownBy w' (V j).ownBlock/\((V j).ownBlock=some g\/g=A.heap.size)):=by
  have h:=O.out
  rw [t.out] at h
  rw [t.out]
  exact h
 clear r O T hO
 refine Zao (S:=fun w'=>w'.cell? ⟨w.heap.size,1,none⟩=some (.slice (some ⟨gl,0,none⟩) n cl)/\w'.cell? ⟨gl,j,none⟩=some (.slice a B c)) (fuel:=3)
  [0,1,2,3,4,5,6,7,8,9] _ rfl (by kernel_rfl) (by kernel_rfl) (by kernel_rfl) (by kernel_rfl) (by kernel_rfl) (by kernel_rfl) (by kernel_rfl) (s.out _ GD) (fun hS=>?_)
 iterate 10
  refine⟨_,rfl,?_⟩
  apply Exists.intro
  refine⟨Or.inl ⟨by rfl,fun w' aL=>?_⟩,?_⟩
  · first
    | (go_simp;done)
    | (go_simp;with_reducible rfl)
  simp only [Act.put,List.setIfInBounds_toArray]
 refine Zc 10 (by kernel_rfl) rfl (fun K I=>?_)
 go_simp
 refine I.out _ _ (s.out _ M) (fun _=>?_)
 clear I K
 refine Zc 11 (by kernel_rfl) rfl (fun K I=>?_)
 go_simp
 refine H.out.mono ?_
 rintro e w4 ⟨g4,c4,rfl,ae,L,z⟩
 have d:f.grownBy w4 (V j).ownBlock:=⟨L.os.trans M.os,L.tape.trans M.tape,L.output.trans M.output,Nat.le_trans M.size L.size,fun k Y ah=>(L.block k (Nat.lt_of_lt_of_le Y M.size) ah).trans (M.block k Y ah)⟩
 refine I.out _ _ (s.out _ d) (fun _=>?_)
 clear I K
 refine Zc 12 (by kernel_rfl) rfl (fun K I=>?_)
 go_simp
 refine I.out _ _ (s.out _ d) (fun _=>?_)
 clear I K hS
 have J:(ZaA (X j) other).length=B+1:=by
  have h:=congrArg List.length (Ziq a6.out)
  rw [a2.out] at h
  simp only [List.length_append,List.length_cons,List.length_take,List.length_drop,List.length_map] at h
  have:=m.out
  omega
 have a5:w4.ownsRow lo 2 1 (.slice (some ⟨g4,0,none⟩) (B+1) c4) (ZaA (X j) other).length ((ZaA (X j) other).map (Value.int .i64)):=by
  have h:=ae
  unfold Zbd at h
  rw [<-a2.out,Ziq a6.out,List.length_map,J] at h
  rw [J]
  exact h
 have ar:=Za (l.out.put hj a5 L (by
  rcases z with e | e
  · exact Or.inr (Or.inl (by rw [e];rfl))
  · exact Or.inr (Or.inr ⟨g4,rfl,by omega⟩)))
 have ac:=l.out.blk.same (L.block gl l.out.blk.lt (fun e=>by have:=D.out _ e.symm;have:=l.out.out;omega))
 have f0:=ac.frozen j
 have e0:=(s.out _ d).2
 have aw:Hid (Zbo gl n V (ZaX V j (.slice (some ⟨g4,0,none⟩) (B+1) c4)) w (w4.setCell ⟨gl,j,none⟩ (.slice (some ⟨g4,0,none⟩) (B+1) c4))):=by
  have au:=u.out.size
  refine⟨d.os.trans u.out.os,d.tape.trans u.out.tape,d.output.trans u.out.output,by rw [Ze];exact Nat.le_trans au d.size,fun b hb h1 h2=>?_,fun i hi q hq=>?_⟩
  · exact (Below.heap_setCell w4 ⟨gl,j,none⟩ _ b (fun e=>h1 e)).trans ((d.block b (by omega) (fun e=>h2 j hj e.symm)).trans (u.out.block b hb))
  · unfold ZaX at hq
    by_cases e:i=j
    · rw [if_pos e] at hq
      have aq:g4=q:=by injection hq
      rcases z with h | h
      · exact Or.inl ⟨j,hj,by rw [h,aq]⟩
      · right;omega
    · rw [if_neg e] at hq
      exact Or.inl ⟨i,hi,hq⟩
 clear ae L d M GD R z a5 ac H s l C F x0 Z c1
 refine wpAnyH_done (by kernel_rfl) ?_ _
 simp only [Exit.then]
 go_wp2_with fail
 refine NoPanic.normal ?_
 go_wp2_with fail
 exact bodyPost_end (v:=.tuple #[]) (by simp [results,Tryz.results197,go_sem]) rfl ⟨rfl,_,ar.out,aw.out⟩
end Go.Proofs.YtilkaeclgmcolaaGreat
namespace Go.Proofs.YtilkaeclgmcolaaGreat
open Go Go.RowKit Go.Deep
theorem ZmO{w:World}{am:Option Addr}{ms:List Mk}(h:Zo w am ms):∃ss:List Sm,ZdD w am ss/\Za9 ss=ms/\ZgA w ss/\ss.length=ms.length:=by
 rcases h with rfl | ⟨b,off,rfl,hb,hs⟩
 · exact⟨[],Or.inl rfl,rfl,(fun x f=>by cases f),rfl⟩
 · have c:∀i,i<ms.length->∃q:Sm,w.cell? ⟨b,off+i*2,none⟩=some (.int .i64 q.1)/\w.cell? ⟨b,off+i*2+1,none⟩=some (.slice q.2.1 q.2.2.2.length q.2.2.1)/\Zy w q.2.1 q.2.2.2/\Zhi q=ZJ ms i:=by
    intro i a
    obtain⟨c0,l,m,c1,k⟩:=hs.at (i:=i) a
    exact⟨(mid ms i,l,m,mat ms i),c0,c1,k,rfl⟩
   obtain⟨q,d⟩:=choose_lt c
   have g:((List.range ms.length).map q).length=ms.length:=by simp
   have e:∀i,i<ms.length->Zdb ((List.range ms.length).map q) i=q i:=fun i a=>by simp [Zdb,List.getD,a]
   refine⟨(List.range ms.length).map q,Or.inr ⟨b,off,rfl,hb,fun i a=>?_⟩,?_,?_,g⟩
   · rw [g] at a
     rw [e i a]
     exact⟨(d i a).1,(d i a).2.1⟩
   · refine List.ext_getElem (by simp [Za9]) (fun i n j=>?_)
     have:=(d i j).2.2.2
     simp only [Za9,List.getElem_map,List.getElem_range]
     rw [this]
     simp [ZJ,List.getD,j]
   · intro x f
     obtain⟨i,a,rfl⟩:=List.mem_map.1 f
     exact (d i (List.mem_range.1 a)).2.2.1
def Zpu(base:Nat)(w:World)(v:Value)(ms:List Mk)(ls:List (List Int))(m:Mk)(most:Int):Prop:=
 (ZaJ ms ls m most=false/\v=.agg #[.slice none 0 0,.slice none 0 0])\/(ZaJ ms ls m most=true/\∃g gl,v=.agg #[.slice (some ⟨g,0,none⟩) (ms.length+1) (ms.length+1),.slice (some ⟨gl,0,none⟩) (ms.length+1) (ms.length+1)]/\ZdN base w g gl (ms++[m]) (cn (ZcY ms ls (Zcg ms m.2 most) m.1)) (ms.length+1))
theorem Zjw{w:World}{al:Option Addr}{ls:List (List Int)}(h:ZS w al ls):∃vs:List Value,vs.length=ls.length/\ZX w 1 al vs.length vs/\(∀a,al=some a->vs≠[]->a.block<w.heap.size)/\∀i,i<ls.length->∃a c,vs[i]? =some (.slice a (cn ls i).length c)/\Zy w a (cn ls i):=by
 rcases h with rfl | ⟨b,off,rfl,hb,hs⟩
 · exact⟨[],rfl,⟨rfl,(fun u d=>by cases d),Or.inl rfl⟩,(fun a _ h=>absurd rfl h),fun i g=>by simp at g⟩
 · have l:∀i,i<ls.length->∃v:Value,w.cell? ⟨b,off+i,none⟩=some v/\v.oneCell'=true/\∃a c,v=.slice a (cn ls i).length c/\Zy w a (cn ls i):=by
    intro i g
    obtain⟨a,c,k,o⟩:=hs i g
    exact⟨_,k,rfl,a,c,rfl,o⟩
   obtain⟨f,m⟩:=choose_lt l
   refine⟨(List.range ls.length).map f,by simp,⟨by simp,fun u d=>?_,Or.inr ⟨_,rfl,fun j u d=>?_⟩⟩,fun a e _=>by injection e with e;rw [<-e];exact hb,fun i g=>?_⟩
   · obtain⟨i,g,rfl⟩:=List.mem_map.1 d
     exact (m i (List.mem_range.1 g)).2.1
   · rw [Go.WideShapes.add_plain]
     have n:j<ls.length:=by
      rcases Nat.lt_or_ge j ls.length with k | k
      · exact k
      · rw [List.getElem?_eq_none (by simp;exact k)] at d;cases d
     rw [List.getElem?_map,List.getElem?_range n] at d
     injection d with d
     rw [<-d]
     exact (m j n).1
   · obtain⟨k,o,a,c,q,p⟩:=m i g
     exact⟨a,c,by rw [List.getElem?_map,List.getElem?_range g];show some (f i)=_;rw [q],p⟩
theorem ZmP{base:Nat}{w:World}{g c:Nat}{vs:List Value}{ls:List (List Int)}(h:VR base w g c (vs++[.slice none 0 0]))(hl:vs.length=ls.length)(hv:∀i,i<ls.length->∃a c,vs[i]? =some (.slice a (cn ls i).length c)/\Zy w a (cn ls i)):ZS w (some ⟨g,0,none⟩) (ls++[[]]):=by
 refine Or.inr ⟨g,0,rfl,h.lt.2,fun i d=>?_⟩
 have f:i<ls.length+1:=by simpa using d
 rw [Nat.zero_add,World.ownsRow.cellAt h i (by simp;omega)]
 rcases Nat.lt_or_ge i ls.length with e | e
 · obtain⟨a,c,j,k⟩:=hv i e
   have b:cn (ls++[[]]) i=cn ls i:=by simp [cn,List.getD,List.getElem?_append_left e]
   rw [b,List.getElem?_append_left (by omega)]
   exact⟨a,c,j,k⟩
 · obtain rfl:i=ls.length:=by omega
   have b:cn (ls++[[]]) ls.length=[]:=by simp [cn,List.getD]
   rw [b,<-hl]
   exact⟨none,0,by simp,Or.inl rfl⟩
theorem Zbo.trans{gl n:Nat}{V V1 V2:Nat->Value}{w w1 w2:World}(h:Zbo gl n V V1 w w1)(k:Zbo gl n V1 V2 w1 w2):Zbo gl n V V2 w w2:=by
 refine⟨k.os.trans h.os,k.tape.trans h.tape,k.output.trans h.output,Nat.le_trans h.size k.size,fun b c d f=>?_,fun i a q g=>?_⟩
 · refine (k.block b (Nat.lt_of_lt_of_le c h.size) d (fun i a e=>?_)).trans (h.block b c d f)
   rcases h.fresh i a b e with ⟨j,hj,e2⟩ | e2
   · exact f j hj e2
   · omega
 · rcases k.fresh i a q g with ⟨j,hj,e2⟩ | e2
   · rcases h.fresh j hj q e2 with h3 | h3
     · exact Or.inl h3
     · exact Or.inr h3
   · exact Or.inr (Nat.le_trans h.size e2)
theorem Zbo.below{gl n:Nat}{V V1:Nat->Value}{w w1 w2:World}(h:Zbo gl n V V1 w w1)(L:Below w1.heap.size w1 w2):Zbo gl n V V1 w w2:=
 ⟨L.os.trans h.os,L.tape.trans h.tape,L.output.trans h.output,Nat.le_trans h.size L.size,fun b hb h1 h2=>(L.block b (Nat.lt_of_lt_of_le hb h.size)).trans (h.block b hb h1 h2),h.fresh⟩
theorem Zbo.refl(gl n:Nat)(V:Nat->Value)(w:World):Zbo gl n V V w w:=⟨rfl,rfl,rfl,Nat.le_refl _,fun _ _ _ _=>rfl,fun i hi _ hq=>Or.inl ⟨i,hi,hq⟩⟩
theorem Zaw.chg{base:Nat}{w w':World}{g gl n:Nat}{ms:List Mk}{G cc:Nat->Nat}{V V1:Nat->Value}{lo hi:Nat}(h:Zaw base w g ms.length ms G cc lo hi)(k:Zbo gl n V V1 w w')(hg:g≠gl)(hgl:gl<lo\/hi<=gl)(hV:∀i,i<n->∀q,(V i).ownBlock=some q->hi<=q)(hgh:g<hi):Zaw base w' g ms.length ms G cc lo hi:=
 ⟨h.blk.same (k.block g h.blk.lt hg (fun i hi' e=>by have:=hV i hi' g e;omega)),fun i hi'=>by
  have hw:=h.within i hi'
  have hr:=h.rows i hi'
  have e:=k.block (G i) hr.lt.2 (by omega) (fun j hj e=>by have:=hV j hj _ e;omega)
  obtain⟨h1,h2 | ⟨g',c',cur,e1,h3,h4,h5⟩⟩:=hr
  · exact⟨h1,Or.inl h2⟩
  · refine⟨h1,Or.inr ⟨g',c',cur,e1,h3,?_,h5⟩⟩
    injection e1 with e1 e2 e3
    injection e1 with e1
    injection e1 with e1
    rw [<-e1,e,e1]
    exact h4,h.rise,h.within,Nat.le_trans h.top k.size,h.ge,h.out⟩
theorem Zdp{gl n b:Nat}{V V1:Nat->Value}{w w':World}{x y:Value}{t:TypeId}(h:Two w b x y t)(k:Zbo gl n V V1 w w')(h1:b≠gl)(h2:∀i,i<n->(V i).ownBlock≠some b):Two w' b x y t:=(k.block b h.lt h1 h2).trans h
theorem ZnV(am al ao:Option Addr)(cm cl ca:Nat)(ms:List Mk)(ls:List (List Int))(m:Mk)(most:Int)(w:World)(hm:Zo w am ms)(hl:ZS w al ls)(hsm:ZL ms)(hcs:Z7 ls)(hcm:ms.length<=cm)(hcl:ls.length<=cl)(hv:Zy w ao m.2)(hn:m.2.length<=1048576):
 Calls Tryz.prog 172 #[.agg #[.slice am ms.length cm,.slice al ls.length cl],.agg #[.int .i64 m.1,.slice ao m.2.length ca],.int .i64 most] w fun e w'=>∃v,e=.returned (.tuple #[v,.bool (ZaJ ms ls m most)])/\Zpu w.heap.size w' v ms ls m most/\Below w.heap.size w w':=by
 obtain⟨W1,aw⟩:∃W,w.alloc (.cells #[.slice am ms.length cm,.slice al ls.length cl] 158)=W:=⟨_,rfl⟩
 obtain⟨W2,aq⟩:∃W,W1.alloc (.cells #[.int .i64 m.1,.slice ao m.2.length ca] 161)=W:=⟨_,rfl⟩
 obtain⟨W3,av⟩:∃W,W2.alloc (.cells #[.slice none 0 0,.slice none 0 0] 158)=W:=⟨_,rfl⟩
 obtain⟨W4,aj⟩:∃W,W3.alloc (.cells #[.int .i64 m.1,.slice ao m.2.length ca] 161)=W:=⟨_,rfl⟩
 have s1:=salZ aw
 have s2:W2.heap.size=w.heap.size+1+1:=by rw [<-aq];simp [s1]
 have s3:W3.heap.size=w.heap.size+1+1+1:=by rw [<-av];simp [s2]
 have s4:W4.heap.size=w.heap.size+1+1+1+1:=by rw [<-aj];simp [s3]
 obtain⟨W,hW⟩:∃W,W4.alloc (.cells #[.slice am ms.length cm,.slice (some ⟨w.heap.size+1+1+1,0,none⟩) 1 1] 36)=W:=⟨_,rfl⟩
 have b1:=balZ aw
 have b2:=balZ aq
 have b3:=balZ av
 have b4:=balZ aj
 have b5:=balZ hW
 have hI:Zac W w.heap.size am cm ms al cl ls:=by
  have h1:Zac W1 w.heap.size am cm ms al cl ls:=by rw [<-aw];exact Zac.box hm hl
  exact (((h1.below b2).below b3).below b4).below b5
 have TM:Two W (w.heap.size+1) (.int .i64 m.1) (.slice ao m.2.length ca) 161:=by
  have h1:Two W2 (w.heap.size+1) (.int .i64 m.1) (.slice ao m.2.length ca) 161:=by rw [<-aq,<-s1];exact Two.new W1 _ _ _
  exact ((h1.below b3).below b4).below b5
 have TR:Two W (w.heap.size+1+1) (.slice none 0 0) (.slice none 0 0) 158:=by
  have h1:Two W3 (w.heap.size+1+1) (.slice none 0 0) (.slice none 0 0) 158:=by rw [<-av,<-s2];exact Two.new W2 _ _ _
  exact (h1.below b4).below b5
 have TA:Two W (w.heap.size+1+1+1) (.int .i64 m.1) (.slice ao m.2.length ca) 161:=by
  have h1:Two W4 (w.heap.size+1+1+1) (.int .i64 m.1) (.slice ao m.2.length ca) 161:=by rw [<-aj,<-s3];exact Two.new W3 _ _ _
  exact h1.below b5
 have TB:Two W (w.heap.size+1+1+1+1) (.slice am ms.length cm) (.slice (some ⟨w.heap.size+1+1+1,0,none⟩) 1 1) 36:=by rw [<-hW,<-s4];exact Two.new W4 _ _ _
 have hB:Below w.heap.size w W:=Zb (Zb (Zb (Zb b1 b2) b3) b4) b5
 have sW:w.heap.size+1+1+1+1<W.heap.size:=TB.lt
 obtain⟨ss,cP,aS,cd,P⟩:=ZmO hI.mv
 have aL:=Za (ZmQ (w.heap.size+1+1+1+1) 2 [(am,cm,ss),(some ⟨w.heap.size+1+1+1,0,none⟩,1,[(m.1,ao,ca,m.2)])] W sW
  (fun i hi=>by
    have bz:i<2:=hi
    rcases (show i=0\/i=1 by omega) with rfl | rfl
    · show W.cell? _=some (.slice am ss.length cm);rw [P];exact TB.c0
    · exact TB.c1)
  (fun i hi=>by
    have bz:i<2:=hi
    rcases (show i=0\/i=1 by omega) with rfl | rfl
    · exact cP
    · exact Or.inr ⟨_,0,rfl,TA.lt,fun k hk=>by
       have dl:k=0:=by simpa using hk
       subst dl
       exact⟨TA.c0,TA.c1⟩⟩)
  (by simp) (by have:=hsm.1;simp [Zbf];omega) (by simp [Zbf]))
 have I:Zbf [(am,cm,ss),(some ⟨w.heap.size+1+1+1,0,none⟩,1,[(m.1,ao,ca,m.2)])]=ss++[(m.1,ao,ca,m.2)]:=by simp [Zbf]
 rw [I] at aL
 have c3:Hid (Za9 (ss++[(m.1,ao,ca,m.2)])=ms++[m]):=by show _=_;rw [Zhj,aS]
 have bZ:Hid (ZgA W (ss++[(m.1,ao,ca,m.2)])):=cd.snoc (hv.next hB)
 have a7:(ss++[(m.1,ao,ca,m.2)]).length=ms.length+1:=by rw [List.length_append,P];rfl
 rw [a7] at aL
 have cM:Hid (((((w.alloc (.cells #[.slice am ms.length cm,.slice al ls.length cl] 158)).alloc (.cells #[.int .i64 m.1,.slice ao m.2.length ca] 161)).alloc (.cells #[.slice none 0 0,.slice none 0 0] 158)).alloc (.cells #[.int .i64 m.1,.slice ao m.2.length ca] 161)).alloc (.cells #[.slice am ms.length cm,.slice (some ⟨w.heap.size+1+1+1,0,none⟩) 1 1] 36)=W):=by show _=_;rw [aw,aq,av,aj,hW]
 have HB:=Za hB
 have HI:=Za hI
 have cj:=Za TM
 have cN:=Za TR
 have bU:=Za sW
 have c8:=Za (hv.next hB)
 have bE:=Za hsm
 have bI:=Za hcs
 clear hm hl hv s1 s2 s3 s4 b1 b2 b3 b4 b5 aw aq av aj hW hI TM TR TA TB hB sW cP aS cd I hsm hcs
 go_enter Tryz.func172,Tryz.ntmps172
 go_wp2_with fail
 rw [cM.out]
 refine aL.out.mono ?_
 rintro e w1 ⟨g1,c1,rfl,cp,L1⟩
 have ak:=cp.view bZ.out L1
 rw [c3.out] at ak
 have ax:=Za ak
 have a4:=HI.out.below L1
 have x:=Za (cN.out.below L1)
 have D:=Za (cj.out.below L1)
 have aZ:=Za (c8.out.next L1)
 have a3:=Za (Zb HB.out L1)
 have ce:=Za a4
 have k0:=a4.c0
 have k1:=a4.c1
 have an:=Za (ZhX am cm ms al cl ls w1 a4.mv a4.cv bE.out bI.out hcm hcl)
 have b6:Hid (w.heap.size+1+1+1+1<w1.heap.size):=Nat.lt_of_lt_of_le bU.out L1.size
 clear cp L1 ak a4 aL cM HI cN cj c8 HB bZ c3 a7 P bU
 by_cases hm1:most<1
 · have o:Hid (ZaJ ms ls m most=false):=by show _=_;unfold ZaJ Zgr;rw [decide_eq_false (show ¬1<=most by omega)];simp
   have p:=x.out
   have r0:=p.c0
   have r1:=p.c1
   have aM:=p.frozen 0
   have aE:=p.frozen 1
   have B:=(p.set0 (.slice none 0 0)).set1 (.slice none 0 0)
   have q0:=B.c0
   have q1:=B.c1
   have L:Hid (Below w.heap.size w ((w1.setCell ⟨w.heap.size+1+1,0,none⟩ (.slice none 0 0)).setCell ⟨w.heap.size+1+1,1,none⟩ (.slice none 0 0))):=((a3.out).setCell (by show w.heap.size<=w.heap.size+1+1;omega) _).setCell (by show w.heap.size<=w.heap.size+1+1;omega) _
   clear p B
   go_wp2_with fail
   refine bodyPost_ret (v:=.tuple #[.agg #[.slice none 0 0,.slice none 0 0],.bool false]) (by simp [results,Tryz.results172,go_sem,q0,q1]) rfl ?_
   exact⟨_,by rw [o.out],Or.inl ⟨o.out,rfl⟩,L.out⟩
 by_cases hm8:most > 8
 · have o:Hid (ZaJ ms ls m most=false):=by show _=_;unfold ZaJ Zgr;rw [decide_eq_false (show ¬most<=8 by omega)];simp
   have p:=x.out
   have r0:=p.c0
   have r1:=p.c1
   have aM:=p.frozen 0
   have aE:=p.frozen 1
   have B:=(p.set0 (.slice none 0 0)).set1 (.slice none 0 0)
   have q0:=B.c0
   have q1:=B.c1
   have L:Hid (Below w.heap.size w ((w1.setCell ⟨w.heap.size+1+1,0,none⟩ (.slice none 0 0)).setCell ⟨w.heap.size+1+1,1,none⟩ (.slice none 0 0))):=((a3.out).setCell (by show w.heap.size<=w.heap.size+1+1;omega) _).setCell (by show w.heap.size<=w.heap.size+1+1;omega) _
   clear p B
   go_wp2_with fail
   refine bodyPost_ret (v:=.tuple #[.agg #[.slice none 0 0,.slice none 0 0],.bool false]) (by simp [results,Tryz.results172,go_sem,q0,q1]) rfl ?_
   exact⟨_,by rw [o.out],Or.inl ⟨o.out,rfl⟩,L.out⟩
 have dq:Hid (Zgr most=true):=by show _=_;unfold Zgr;rw [decide_eq_true (show 1<=most by omega),decide_eq_true (show most<=8 by omega)];rfl
 rcases hwb:Zax ms ls with _ | _
 · have o:Hid (ZaJ ms ls m most=false):=by show _=_;unfold ZaJ;rw [hwb];simp
   rw [hwb] at an
   clear hwb
   go_wp2_with fail
   refine an.out.mono ?_
   rintro e w2 ⟨rfl,L2⟩
   have p:=x.out.below L2
   have r0:=p.c0
   have r1:=p.c1
   have aM:=p.frozen 0
   have aE:=p.frozen 1
   have B:=(p.set0 (.slice none 0 0)).set1 (.slice none 0 0)
   have q0:=B.c0
   have q1:=B.c1
   have L:Hid (Below w.heap.size w ((w2.setCell ⟨w.heap.size+1+1,0,none⟩ (.slice none 0 0)).setCell ⟨w.heap.size+1+1,1,none⟩ (.slice none 0 0))):=((Zb a3.out L2).setCell (by show w.heap.size<=w.heap.size+1+1;omega) _).setCell (by show w.heap.size<=w.heap.size+1+1;omega) _
   clear p B
   clear L2
   go_wp2_with fail
   refine bodyPost_ret (v:=.tuple #[.agg #[.slice none 0 0,.slice none 0 0],.bool false]) (by simp [results,Tryz.results172,go_sem,q0,q1]) rfl ?_
   exact⟨_,by rw [o.out],Or.inl ⟨o.out,rfl⟩,L.out⟩
 rw [hwb] at an
 have ac:=Za hwb
 have e9:=ZF (ZY hwb)
 have bh:Hid (ZL (ms++[m])):=⟨by simp;omega,fun i=>by
  rcases Nat.lt_or_ge i ms.length with e | e
  · rw [ZhQ e];exact bE.out.2 i
  · rcases Nat.lt_or_ge ms.length i with e2 | e2
    · simp [mat,List.getD,show ms.length+1<=i by omega]
    · rw [show i=ms.length by omega,ZhR];exact hn⟩
 clear hwb
 go_wp2_with fail
 refine an.out.mono ?_
 rintro e w2 ⟨rfl,L2⟩
 have au:=Zg7 (some ⟨g1,0,none⟩) c1 (ms++[m]) w2 (ax.out.next L2) bh.out
 rw [show (ms++[m]).length=ms.length+1 by simp] at au
 have F:=Za au
 clear au
 rcases hmb:Zt (ms++[m]) with _ | _
 · have o:Hid (ZaJ ms ls m most=false):=by show _=_;unfold ZaJ;rw [hmb];simp
   rw [hmb] at F
   clear hmb
   have af:=Za L2
   clear L2 k0 k1
   go_wp2_with fail
   refine F.out.mono ?_
   rintro e C ⟨rfl,L3⟩
   have p:=(x.out.below af.out).below L3
   have r0:=p.c0
   have r1:=p.c1
   have aM:=p.frozen 0
   have aE:=p.frozen 1
   have B:=(p.set0 (.slice none 0 0)).set1 (.slice none 0 0)
   have q0:=B.c0
   have q1:=B.c1
   have L:Hid (Below w.heap.size w ((C.setCell ⟨w.heap.size+1+1,0,none⟩ (.slice none 0 0)).setCell ⟨w.heap.size+1+1,1,none⟩ (.slice none 0 0))):=((Zb (Zb a3.out af.out) L3).setCell (by show w.heap.size<=w.heap.size+1+1;omega) _).setCell (by show w.heap.size<=w.heap.size+1+1;omega) _
   clear p B
   clear L3
   go_wp2_with fail
   refine bodyPost_ret (v:=.tuple #[.agg #[.slice none 0 0,.slice none 0 0],.bool false]) (by simp [results,Tryz.results172,go_sem,q0,q1]) rfl ?_
   exact⟨_,by rw [o.out],Or.inl ⟨o.out,rfl⟩,L.out⟩
 rw [hmb] at F
 have a0:=Za hmb
 have o:Hid (ZaJ ms ls m most=true):=by show _=_;unfold ZaJ;rw [ac.out,dq.out,hmb];rfl
 have af:=Za L2
 clear hmb L2 k0 k1 an
 go_wp2_with fail
 refine F.out.mono ?_
 rintro e C ⟨rfl,L3⟩
 have H:=Zb af.out L3
 have aI:=ce.out.below H
 have bX:=Za aI
 have cq:=Za (x.out.below H)
 have bT:=Za (D.out.below H)
 have cr:=Za (aZ.out.next H)
 have cy:=Za (ax.out.next H)
 have dn:=Za (Zb a3.out H)
 have k0:=aI.c0
 have k1:=aI.c1
 have cR:Hid (w.heap.size+1+1+1+1<C.heap.size):=Nat.lt_of_lt_of_le b6.out H.size
 clear L3 H aI ce x D aZ ax a3 b6 F af
 have cD:=Zco ac.out
 obtain⟨vs,bG,b8,bA,bW⟩:=Zjw bX.out.cv
 obtain⟨J,A⟩:∃J,C.alloc (.cells #[.slice none 0 0] 31)=J:=⟨_,rfl⟩
 obtain⟨V2,aP⟩:∃V2,J.alloc (.cells #[.slice al ls.length cl,.slice (some ⟨C.heap.size,0,none⟩) 1 1] 156)=V2:=⟨_,rfl⟩
 have cG:=salZ A
 have cC:=balZ A
 have br:=balZ aP
 have LV:=Zb cC br
 have OA:One V2 C.heap.size (.slice none 0 0) 31:=by
  have h1:One J C.heap.size (.slice none 0 0) 31:=by rw [<-A];exact One.new C _ _
  exact h1.below br
 have TB:Two V2 (C.heap.size+1) (.slice al ls.length cl) (.slice (some ⟨C.heap.size,0,none⟩) 1 1) 156:=by rw [<-aP,<-cG];exact Two.new J _ _ _
 have aG:=Za (ZmR (C.heap.size+1) 2 [(al,cl,vs),(some ⟨C.heap.size,0,none⟩,1,[.slice none 0 0])] V2 TB.lt
  (fun i hi=>by
    have bz:i<2:=hi
    rcases (show i=0\/i=1 by omega) with rfl | rfl
    · show V2.cell? _=some (.slice al vs.length cl);rw [bG];exact TB.c0
    · exact TB.c1)
  (fun i hi=>by
    have bz:i<2:=hi
    rcases (show i=0\/i=1 by omega) with rfl | rfl
    · exact⟨ZgB b8 bA LV,fun a e h=>Nat.lt_of_lt_of_le (bA a e h) LV.size⟩
    · refine⟨⟨rfl,fun u hu=>by simp at hu;subst hu;rfl,Or.inr ⟨_,rfl,World.news_of_block (cs:=#[.slice none 0 0]) OA⟩⟩,fun a e _=>by injection e with e;rw [<-e];exact OA.lt⟩)
  (by simp) (by have:=bI.out.1;simp [Zbg];omega) (by simp [Zbg]))
 have I:Zbg [(al,cl,vs),(some ⟨C.heap.size,0,none⟩,1,[.slice none 0 0])]=vs++[.slice none 0 0]:=by simp [Zbg]
 rw [I] at aG
 rw [show (vs++[Value.slice none 0 0]).length=ms.length+1 by simp;omega] at aG
 have cT:=Za LV
 have cO:Hid ((C.alloc (.cells #[.slice none 0 0] 31)).alloc (.cells #[.slice al ls.length cl,.slice (some ⟨C.heap.size,0,none⟩) 1 1] 156)=V2):=by show _=_;rw [A,aP]
 have bq:=Za (And.intro bG bW)
 have ay:=Za cD
 clear b8 bA bG bW cG cC br LV OA TB I A aP cD
 go_wp2_with fail
 rw [cO.out]
 refine aG.out.mono ?_
 rintro e w4 ⟨g4,c4,rfl,cg,L4⟩
 have aF:=Zb cT.out L4
 have be:=ZmP cg bq.out.1 (fun i hi=>by obtain⟨a,c,h1,h2⟩:=bq.out.2 i hi;exact⟨a,c,h1,h2.next aF⟩)
 have bn:Hid (Z7 (ls++[[]])):=⟨by have:=ay.out;simp;omega,fun i=>by
  rcases Nat.lt_or_ge i ls.length with e | e
  · have ec:cn (ls++[[]]) i=cn ls i:=by simp [cn,List.getD,List.getElem?_append_left e]
    rw [ec];exact bI.out.2 i
  · rcases Nat.lt_or_ge ls.length i with e2 | e2
    · simp [cn,List.getD,show ls.length+1<=i by omega]
    · rw [show i=ls.length by omega];simp [cn,List.getD]⟩
 have bs:=Zkm (some ⟨g1,0,none⟩) (some ⟨g4,0,none⟩) c1 c4 (ms++[m]) (ls++[[]]) w4 (cy.out.next aF) be a0.out bh.out bn.out
 rw [show (ms++[m]).length=ms.length+1 by simp,show (ls++([[]]:List (List Int))).length=ms.length+1 by have:=ay.out;simp;omega] at bs
 have cx:=Za bs
 have aX:=Za aF
 clear cg L4 aF be bs aG cO bq cT
 go_wp2_with fail
 refine cx.out.mono ?_
 rintro e w5 ⟨g,gl,rfl,cw,L5⟩
 obtain⟨G,cc,V,lo,hi,up,r,z,ag,R,M⟩:=cw
 have n:Hid (∀i,i<ms.length+1->∀q,(V i).ownBlock=some q->up<=q/\q<w5.heap.size):=fun i f q hq=>Zaq (z.own i f) hq
 have dD:=r.ge
 have dP:=z.ge
 have dh:=r.out
 have dr:=z.out
 have en:=r.within 0 (by simp)
 have c7:=z.blk.lt
 obtain⟨w6,bu⟩:∃w6,w5.alloc (.cells #[.slice (some ⟨g,0,none⟩) (ms.length+1) (ms.length+1),.slice (some ⟨gl,0,none⟩) (ms.length+1) (ms.length+1)] 158)=w6:=⟨_,rfl⟩
 have L6:=balZ bu
 have TO:Two w6 w5.heap.size (.slice (some ⟨g,0,none⟩) (ms.length+1) (ms.length+1)) (.slice (some ⟨gl,0,none⟩) (ms.length+1) (ms.length+1)) 158:=by rw [<-bu];exact Two.new w5 _ _ _
 have N:=Zb (Zb aX.out L5) L6
 have bH:=bX.out.below N
 have ci:=Za (iNear am ao cm ca ms m.2 most w6 bH.mv (cr.out.next N) bE.out hn)
 have k6:=bH.c0
 have tm:=bT.out.below N
 have t0:=tm.c0
 have t1:=tm.c1
 have bk:=Za (r.next L6)
 have aU:=Za (z.next L6)
 have du:=TO.lt
 have ck:=Za TO
 have dF:=Za N
 have eo:=Za L5
 have bj:=Za tm
 have bd:=Za (cq.out.below N)
 have c5:=Za (Zb dn.out N)
 have dI:w.heap.size+1+1+1+1<w4.heap.size:=Nat.lt_of_lt_of_le cR.out aX.out.size
 have cQ:=L5.size
 clear r z L5 L6 N bH tm TO cx bn k0 k1
 go_wp2_with fail
 clear bu
 refine ci.out.mono ?_
 rintro e w7 ⟨v7,rfl,bF,L7⟩
 obtain⟨ah,ch,rfl,bB⟩:=bF.view
 have cH:Hid (∀b aa,ah=some ⟨b,aa,none⟩->Zav ms m.2 most≠[]->w6.heap.size<=b):=fun b aa e dy=>by
  rcases bF with ⟨-,h0⟩ | ⟨g',c',e',hr⟩
  · exact absurd h0 dy
  · injection e' with e1
    rw [e] at e1
    injection e1 with e1
    injection e1 with e1
    rw [e1]
    exact hr.lt.1
 have cK:=Za (bk.out.next L7)
 have cV:=Za (aU.out.next L7)
 have aW:=Za (ck.out.below L7)
 have cE:=Za (bj.out.below L7)
 have c9:=Za (bd.out.below L7)
 have a5:=Za (Zb c5.out L7)
 have ee:=L7.size
 have bL:=Zfu ms m.2 most
 obtain⟨Z,aJ⟩:∃Z,Zav ms m.2 most=Z:=⟨_,rfl⟩
 rw [aJ] at bB bL cH ⊢
 obtain⟨l,s⟩:∃l,Zcg ms m.2 most=l:=⟨_,rfl⟩
 have aT:Hid (l.length=Z.length):=by show _=_;rw [<-s,<-aJ];simp [Zcg]
 have cA:Hid (∀t,t<Z.length->nth l t=(Zx Z t).1):=fun t ht=>by
  rw [<-s];unfold Zcg;rw [aJ];simp [nth,Zx,List.getD,ht]
 have cB:Hid (l.Nodup):=by show l.Nodup;rw [<-s];exact ZeL (ZY ac.out) _ _
 have df:Hid (∀y∈l,0<=ZC ms y):=by show ∀y∈l,_;rw [<-s];exact ZcM (ZY ac.out)
 have cf:=Za s
 have dj:=Za bB
 obtain⟨O,hO⟩:∃O,w5.heap.size=O:=⟨_,rfl⟩
 rw [hO] at aW n c7 cQ du ⊢
 have ea:w4.heap.size<=O:=cQ
 clear s aJ bF L7 bk aU ck bj bd c5 k6 t0 t1 bB ci hO
 go_wp2_with fail
 go_loopw [50] (fun iv wr=>∃(t:Nat) (V':Nat->Value),t<=Z.length/\iv=.int .i64 t/\NM w4.heap.size wr gl (ms.length+1) V' (lkX ms ls l m.1 t) up/\Zbo gl (ms.length+1) V V' w7 wr) (fun iv _=>Z.length-(intOf iv).toNat)
 case atStart=>exact⟨0,V,Nat.zero_le _,rfl,cV.out.congr (fun i f=>Zk9 ay.out l m.1 f),Zbo.refl _ _ _ _⟩
 case round=>
  obtain⟨t,V',ht,rfl,z,hk⟩:=hrel
  have U:=Za z
  have S:=Za hk
  have r:=cK.out.chg hk ag R (fun i f q hq=>Nat.le_trans M (n.out i f q hq).1) (by omega)
  have a9:=Zdp aW.out hk (by omega) (fun i f e=>by have:=n.out i f _ e;omega)
  have bC:=Zdp cE.out hk (by omega) (fun i f e=>by have:=n.out i f _ e;omega)
  have T:=Zdp c9.out hk (by omega) (fun i f e=>by have:=n.out i f _ e;omega)
  have cF:=hk.size
  clear z hk
  by_cases htl:t<Z.length
  · obtain⟨hb,ho,rfl,db,bw⟩:∃b aa,ah=some ⟨b,aa,none⟩/\b<w7.heap.size/\Zdv w7 b aa Z:=by
     rcases dj.out with h | h
     · rw [h] at htl;simp at htl
     · exact h
    have eg:=cH.out hb ho rfl (fun e=>by rw [e] at htl;simp at htl)
    have eb:=S.out.block hb db (by omega) (fun i f e=>by have:=n.out i f _ e;omega)
    obtain⟨j,hj,aD,a1,cS,aR,dB,cb,bo,ef,K⟩:=ZmS ac.out a0.out cB.out df.out (t:=t) (by rw [aT.out];exact htl)
    have c0:=(World.cell?_of_block (a:=⟨hb,ho+t*2,none⟩) eb).trans (bw t htl).1
    have c1:=(World.cell?_of_block (a:=⟨hb,ho+t*2+1,none⟩) eb).trans (bw t htl).2
    rw [<-cA.out t htl] at c0
    obtain⟨y,hy⟩:∃y,nth l t=y:=⟨_,rfl⟩
    obtain⟨d,hd⟩:∃d,(Zx Z t).2=d:=⟨_,rfl⟩
    rw [hy] at c0 aD bo K
    rw [hd] at c1
    obtain⟨J,A⟩:∃J,wr.alloc (.cells #[.int .i64 y,.int .i64 d] 227)=J:=⟨_,rfl⟩
    have LZ:=balZ A
    have tz:Two J wr.heap.size (.int .i64 y) (.int .i64 d) 227:=by rw [<-A];exact Two.new wr _ _ _
    have X:=a9.below LZ
    have ar:=bC.below LZ
    have aA:=r.next LZ
    have az:=U.out.next LZ
    have o0:=X.c0
    have o1:=X.c1
    have m0:=ar.c0
    have z0:=tz.c0
    have E:=Zla a0.out hj
    rw [<-aD] at E
    have cU:Zo J (some ⟨g,0,none⟩) (ms++[m]):=by have:=(aA.own (by simp [maxLen];omega)).view;rw [ZbB] at this;exact this
    have ad:=ZoK w4.heap.size gl (ms.length+1) (ms.length+1) (ms.length+1) up (some ⟨g,0,none⟩) (ms++[m]) V' (lkX ms ls l m.1 t) y m.1 J cU a0.out E.1 az (by rw [E.2];omega) (by rw [E.2,a1];exact cS) (by rw [E.2,a1];exact aR) (by rw [E.2,a1];omega)
    rw [E.2,a1,show (ms++[m]).length=ms.length+1 by simp] at ad
    have b0:=Za ad
    have ae:Hid (∀i,i<ms.length+1->∀q,(V' i).ownBlock=some q->up<=q/\q<wr.heap.size):=fun i f q hq=>Zaq (U.out.own i f) hq
    have bm:Hid (∀b,b<w7.heap.size->(∀i,i<ms.length+1->(V i).ownBlock≠some b)->∀i,i<ms.length+1->(V' i).ownBlock≠some b):=fun b e4 hv i f e=>by
     rcases S.out.fresh i f b e with ⟨k,hk,e2⟩ | e2
     · exact hv k hk e2
     · omega
    have b7:=Za X
    have D:=Za ar
    have aV:=Za aA
    have c6:=Za tz
    have cL:=Za (S.out.below LZ)
    have em:=Za (And.intro a1 aD)
    have cI:=Za (And.intro cb bo)
    have cu:=Za K
    have ed:=Za hy
    have eh:=n0Z t
    have e7:(t:Int)<(Z.length:Int):=by omega
    clear r a9 bC T X ar aA az tz cU ad bw eb E a1 cS aR dB cb bo K hy hd aD
    go_wp2_with fail
    refine b0.out.mono ?_
    rintro e w8 ⟨rfl,V8,aQ,a2⟩
    have a8:=Zdp b7.out a2 (by omega) (bm.out O (by omega) (fun i f e=>by have:=n.out i f _ e;omega))
    have bg:=Zdp D.out a2 (by omega) (bm.out _ (by omega) (fun i f e=>by have:=n.out i f _ e;omega))
    have bl:=Zdp c6.out a2 (by have:=U.out.blk.lt;omega) (fun i f e=>by have:=ae.out i f _ e;omega)
    have bi:=aV.out.chg a2 ag R (fun i f q hq=>Nat.le_trans M (ae.out i f q hq).1) (by omega)
    have o0:=a8.c0
    have o1:=a8.c1
    have m0:=bg.c0
    have z0:=bl.c0
    have ba:Zo w8 (some ⟨g,0,none⟩) (ms++[m]):=by have:=(bi.own (by simp [maxLen];omega)).view;rw [ZbB] at this;exact this
    have Q:=Zlb a0.out
    have aC:Zew (lkX ms ls l m.1 t) j (ZaA (cn ls j) m.1) ms.length=ZcZ (l.take t):=by unfold Zew lkX;rw [if_neg (by omega),if_neg (by omega)]
    have ap:=ZoK w4.heap.size gl (ms.length+1) (ms.length+1) (ms.length+1) up (some ⟨g,0,none⟩) (ms++[m]) V8 (Zew (lkX ms ls l m.1 t) j (ZaA (cn ls j) m.1)) m.1 y w8 ba a0.out Q.1 aQ (by rw [Q.2];omega) (by rw [Q.2,aC];exact cI.out.1) (by rw [Q.2,aC];exact cI.out.2) (by rw [Q.2,aC];omega)
    rw [Q.2,aC,show (ms++[m]).length=ms.length+1 by simp] at ap
    have bb:=Za ap
    have bY:=Za (cL.out.trans a2)
    clear a8 bg bl bi ba Q aC ap a2 aQ b0 b7 D aV c6 cL A
    go_wp2_with fail
    refine bb.out.mono ?_
    rintro e w9 ⟨rfl,V9,bc,cz⟩
    have dt:=Za (bc.congr (Y:=lkX ms ls l m.1 (t+1)) (fun i f=>by
     rcases cu.out i with h | h
     · exact h
     · omega))
    have dk:=Za (bY.out.trans cz)
    clear bc cz bb bY o0 o1 m0 z0
    go_wp2_with fail
    go_roundw
    case rel=>exact⟨t+1,V9,by omega,by go_num,dt.out,dk.out⟩
    case measure=>simp [intOf];omega
  · obtain rfl:t=Z.length:=by omega
    have e5:¬((Z.length:Int)<(Z.length:Int)):=by omega
    have o0:=a9.c0
    have o1:=a9.c1
    have r0:=T.c0
    have r1:=T.c1
    have aM:=T.frozen 0
    have aE:=T.frozen 1
    have B:=(T.set0 (.slice (some ⟨g,0,none⟩) (ms.length+1) (ms.length+1))).set1 (.slice (some ⟨gl,0,none⟩) (ms.length+1) (ms.length+1))
    have q0:=B.c0
    have q1:=B.c1
    have bV:=Za (U.out.congr (Y:=cn (ZcY ms ls l m.1)) (fun i f=>by rw [<-aT.out];exact Zoc ms ls l m.1 f))
    have dz:Hid (Below w.heap.size w wr):=by
     refine⟨S.out.os.trans a5.out.os,S.out.tape.trans a5.out.tape,S.out.output.trans a5.out.output,Nat.le_trans a5.out.size cF,fun b hb=>(S.out.block b (by have:=a5.out.size;omega) (by omega) (fun i f e=>by have:=n.out i f _ e;omega)).trans (a5.out.block b hb)⟩
    have HE:Hid (ZdN w.heap.size ((wr.setCell ⟨w.heap.size+1+1,0,none⟩ (.slice (some ⟨g,0,none⟩) (ms.length+1) (ms.length+1))).setCell ⟨w.heap.size+1+1,1,none⟩ (.slice (some ⟨gl,0,none⟩) (ms.length+1) (ms.length+1))) g gl (ms++[m]) (cn (ZcY ms ls l m.1)) (ms.length+1)/\Below w.heap.size w ((wr.setCell ⟨w.heap.size+1+1,0,none⟩ (.slice (some ⟨g,0,none⟩) (ms.length+1) (ms.length+1))).setCell ⟨w.heap.size+1+1,1,none⟩ (.slice (some ⟨gl,0,none⟩) (ms.length+1) (ms.length+1)))):=
     ⟨⟨G,cc,V',lo,hi,up,(((r.far (by omega) (Or.inl (by omega)) _ _).far (by omega) (Or.inl (by omega)) _ _).low (by omega)),(((bV.out.far (by omega) (by omega) _ _).far (by omega) (by omega) _ _).low (by omega)),ag,R,M⟩,((dz.out.setCell (by show w.heap.size<=w.heap.size+1+1;omega) _).setCell (by show w.heap.size<=w.heap.size+1+1;omega) _)⟩
    clear r a9 bC T B bV
    go_wp2_with fail
    refine bodyPost_ret (v:=.tuple #[.agg #[.slice (some ⟨g,0,none⟩) (ms.length+1) (ms.length+1),.slice (some ⟨gl,0,none⟩) (ms.length+1) (ms.length+1)],.bool true]) (by simp [results,Tryz.results172,go_sem,q0,q1]) rfl ?_
    exact⟨_,by rw [o.out],Or.inr ⟨o.out,g,gl,rfl,by rw [cf.out];exact HE.out.1⟩,HE.out.2⟩
end Go.Proofs.YtilkaeclgmcolaaGreat
namespace Go.Proofs.YtilkaeclgmcolaaGreat
open Go Go.RowKit
def mkX(k0:Int)(X:Nat->List Int)(i:Nat):List Int:=ZaE (fun t=>k0+(tot (fun j=>(X j).length) i:Nat)+t) (X i).length
theorem Zod(k0:Int)(X:Nat->List Int)(i:Nat):(mkX k0 X i).length=(X i).length:=by unfold mkX;rw [ZE]
theorem NM.over{base:Nat}{w w':World}{g n:Nat}{V:Nat->Value}{X:Nat->List Int}{lo:Nat}(h:NM base w g n V X lo){m:Nat}(hm:m<n){xs:List Int}(ho:w'.ownsRow lo 2 1 (V m) xs.length (xs.map (Value.int .i64)))
 (hg:w.grownBy w' (V m).ownBlock):NM base w' g n V (Zew X m xs) lo:=by
 have c:=h.blk.lt
 have a:=h.out
 have f:∀q,(V m).ownBlock=some q->lo<=q/\q<w.heap.size:=fun q e=>Zaq (h.own m hm) e
 refine⟨h.blk.same (hg.block g c (fun e=>by have:=f g e.symm;omega)),fun i d=>?_,h.apart,h.ge,a,Nat.le_trans h.top hg.size⟩
 unfold Zew
 by_cases e:i=m
 · rw [if_pos e,e];exact ho
 · rw [if_neg e]
   refine ZbC (h.own i d) (fun q b=>?_)
   have k:=Zaq (h.own i d) b
   refine hg.block q k.2 (fun j=>?_)
   rcases h.apart i m d hm e with h1 | h1
   · rw [h1] at b;cases b
   · exact h1 (b.trans j)
theorem Zlc{w:World}{b:Nat}{v:Value}{xs:List Int}(h:w.ownsRow b 2 1 v xs.length (xs.map (Value.int .i64))):IOut b w v xs:=by
 obtain⟨d,⟨rfl,e⟩ | ⟨g,cap,a,rfl,c⟩⟩:=h
 · exact Or.inl ⟨rfl,List.length_eq_zero_iff.1 e⟩
 · exact Or.inr ⟨g,cap,rfl,⟨d,Or.inr ⟨g,cap,a,rfl,c⟩⟩⟩
theorem Zld{w:World}{b:Nat}{v:Value}{xs:List Int}(h:IOut b w v xs):w.ownsRow b 2 1 v xs.length (xs.map (Value.int .i64)):=by
 rcases h with ⟨rfl,rfl⟩ | ⟨g,c,rfl,hr⟩
 · exact⟨rfl,Or.inl ⟨rfl,rfl⟩⟩
 · exact hr
theorem Zpv(base lo gl n cap:Nat)(V:Nat->Value)(X:Nat->List Int)(k0:Int)(w:World)(h:NM base w gl n V X lo)(hn:n<=61)(hx:∀i,i<n->(X i).length<=1000)(h0:1<=k0)(h1:k0<=1000000):
 Calls Tryz.prog 175 #[.slice (some ⟨gl,0,none⟩) n cap,.int .i64 k0] w fun e w'=>e=.returned (.int .i64 (k0+(tot (fun j=>(X j).length) n:Nat)))/\NM base w' gl n V (mkX k0 X) lo/\Zbo gl n V V w w':=by
 have Z:=Za hx
 have K:=Za h
 have C:Hid (∀k,k<=n->tot (fun j=>(X j).length) k<=1000*k):=fun k=>by
  induction k with
  | zero=>intro _;simp [tot]
  | succ k ih=>intro L;have:=ih (by omega);have:=hx k (by omega);simp only [tot];omega
 clear h hx
 go_enter Tryz.func175,Tryz.ntmps175
 go_wp2
 go_loopw [1,5] (fun S i wr=>∃k:Nat,k<=n/\i=.int .i64 k/\S=.int .i64 (k0+(tot (fun j=>(X j).length) k:Nat))/\NM base wr gl n V (fun i=>if i<k then mkX k0 X i else X i) lo/\Zbo gl n V V w wr) (fun _ i _=>n-(intOf i).toNat)
 case atStart=>exact⟨0,Nat.zero_le _,rfl,by simp [tot],K.out.congr (fun i _=>by rw [if_neg (by omega)]),Zbo.refl _ _ _ _⟩
 case round=>
  obtain⟨k,L,rfl,rfl,l,o⟩:=hrel
  have B:=C.out k L
  obtain⟨T,A⟩:∃T:Nat,tot (fun j=>(X j).length) k=T:=⟨_,rfl⟩
  rw [A] at B ⊢
  have t:=Za A
  clear A
  by_cases hlt:k<n
  · have Q:=Z.out k hlt
    have g:=l.own k hlt
    rw [if_neg (by omega)] at g
    obtain⟨a,c,x,-⟩:=Zcm g
    have W:=l.blk.cell hlt
    rw [x] at W
    have G:=Zlc g
    rw [x] at G
    have O:=Za (markO lo c a (k0+T) (X k) wr G (by omega) (by omega) (by omega))
    have D:=Za l
    have M:=Za o
    have r:=Za x
    have a1:=n0Z k
    have R:(k:Int)<(n:Int):=by omega
    clear l o g G x
    go_wp2_with fail
    refine O.out.mono ?_
    rintro e F ⟨rfl,v,d,-⟩
    have s:F.ownsRow lo 2 1 (V k) (mkX k0 X k).length ((mkX k0 X k).map (Value.int .i64)):=by
     have y:=Zld v
     rw [ZE,<-r.out] at y
     have u:mkX k0 X k=ZaE (fun i=>k0+T+i) (X k).length:=by unfold mkX;rw [t.out]
     rw [u,ZE]
     exact y
    have f:wr.grownBy F (V k).ownBlock:=⟨d.1,d.2.1,d.2.2.1,d.2.2.2.1,fun b J H=>d.2.2.2.2 b J (fun p n' c' e=>by
     intro P
     apply H
     have h3:=(D.out.own k hlt)
     rw [r.out]
     injection e with e1 u e3
     rcases h3 with ⟨-,⟨e4,-⟩ | ⟨g4,c4,cur4,e4,-⟩⟩
     · rw [r.out] at e4
       injection e4 with e5
       rw [e5] at e1;cases e1
     · rw [r.out] at e4
       injection e4 with e5
       rw [e1] at e5
       injection e5 with e5
       rw [P,e1,e5]
       rfl)⟩
    have z:=Za ((D.out.over hlt s f).congr (Y:=fun i=>if i<k+1 then mkX k0 X i else X i) (fun i m=>by
     simp only [Zew]
     by_cases e:i=k
     · rw [if_pos e,if_pos (by omega),e]
     · rw [if_neg e]
       by_cases u:i<k
       · rw [if_pos u,if_pos (by omega)]
       · rw [if_neg u,if_neg (by omega)]))
    have I:=Za (M.out.trans (⟨f.os,f.tape,f.output,f.size,fun b J _ y=>f.block b J (fun e=>y k hlt e.symm),fun i m q U=>Or.inl ⟨i,m,U⟩⟩:Zbo gl n V V wr F))
    have E:Hid (tot (fun j=>(X j).length) (k+1)=T+(X k).length):=by show tot (fun j=>(X j).length) k+(X k).length=_;rw [t.out]
    clear v d s f O D M
    go_wp2_with fail
    go_roundw
    case rel=>exact⟨k+1,by omega,by go_num,by rw [E.out];congr 1;omega,z.out,I.out⟩
    case measure=>simp [intOf];omega
  · obtain rfl:k=n:=by omega
    have N:=Za (And.intro (l.congr (Y:=mkX k0 X) (fun i m=>by rw [if_pos m])) o)
    clear l o
    go_wp2
    go_ret
    exact⟨ZK (by rw [t.out]),N.out.1,N.out.2⟩
theorem Zpw(gl n cap:Nat)(X:Nat->List Int)(k0:Int)(w:World)(h:∀i,i<n->∃a c,w.cell? ⟨gl,i,none⟩=some (.slice a (X i).length c)/\Zy w a (mkX k0 X i))(hn:n<=61)(hx:∀i,i<n->(X i).length<=1000)(h0:1<=k0)(h1:k0<=1000000):
 Calls Tryz.prog 176 #[.slice (some ⟨gl,0,none⟩) n cap,.int .i64 k0] w fun e w'=>e=.returned (.int .i64 (k0+(tot (fun j=>(X j).length) n:Nat)))/\w'=w:=by
 have y:=Za hx
 have u:=Za h
 have l:Hid (∀k,k<=n->tot (fun j=>(X j).length) k<=1000*k):=fun k=>by
  induction k with
  | zero=>intro _;simp [tot]
  | succ k ih=>intro q;have:=ih (by omega);have:=hx k (by omega);simp only [tot];omega
 clear h hx
 go_enter Tryz.func176,Tryz.ntmps176
 go_wp2
 go_loopw [1,5] (fun v i wr=>∃k:Nat,k<=n/\i=.int .i64 k/\v=.int .i64 (k0+(tot (fun j=>(X j).length) k:Nat))/\wr=w) (fun _ i _=>n-(intOf i).toNat)
 case atStart=>exact⟨0,Nat.zero_le _,rfl,by simp [tot],rfl⟩
 case round=>
  obtain⟨k,q,rfl,rfl,m⟩:=hrel
  subst m
  have p:=l.out k q
  obtain⟨T,g⟩:∃T:Nat,tot (fun j=>(X j).length) k=T:=⟨_,rfl⟩
  rw [g] at p ⊢
  have b:=Za g
  clear g
  by_cases hlt:k<n
  · have s:=y.out k hlt
    obtain⟨a,c,A,d⟩:=u.out k hlt
    unfold mkX at d
    rw [b.out] at d
    have x:=Za (ZoH a c (X k).length (k0+T) wr d (by omega) (by omega) (by omega))
    have o:Hid (tot (fun j=>(X j).length) (k+1)=T+(X k).length):=by show tot (fun j=>(X j).length) k+(X k).length=_;rw [b.out]
    have r:=n0Z k
    have t:(k:Int)<(n:Int):=by omega
    clear d
    go_wp2_with fail
    refine x.out.mono ?_
    rintro e z ⟨rfl,f⟩
    subst f
    go_wp2_with fail
    go_roundw
    case rel=>exact⟨k+1,by omega,by go_num,by rw [o.out];congr 1;omega,by first | trivial | rfl⟩
    case measure=>simp [intOf];omega
  · obtain rfl:k=n:=by omega
    go_wp2
    go_ret
    exact⟨ZK (by rw [b.out]),rfl⟩
theorem NM.same{base:Nat}{w w':World}{g n:Nat}{V:Nat->Value}{X:Nat->List Int}{lo:Nat}(h:NM base w g n V X lo)(hs:w.heap.size<=w'.heap.size)(e0:w'.heap[g]? =w.heap[g]?)(e:∀i,i<n->∀q,(V i).ownBlock=some q->w'.heap[q]? =w.heap[q]?):NM base w' g n V X lo:=
 ⟨h.blk.same e0,fun i hi=>ZbC (h.own i hi) (fun q eq=>e i hi q eq),h.apart,h.ge,h.out,Nat.le_trans h.top hs⟩
theorem ZeP{base:Nat}{w w':World}{g c:Nat}{xs:List Int}(h:ZQ base w g c xs)(e:w'.heap[g]? =w.heap[g]?):ZQ base w' g c xs:=by
 obtain⟨d,j | ⟨i,f,b,a,l,k,m⟩⟩:=h
 · exact⟨d,Or.inl j⟩
 · refine⟨d,Or.inr ⟨i,f,b,a,l,?_,m⟩⟩
   injection a with a e2 e3
   injection a with a
   injection a with a
   rw [<-a,e,a]
   exact k
theorem ZbT.same15{base:Nat}{w w':World}{g c:Nat}{ds:List Dm}(h:ZbT base w g c ds)(e0:w'.heap[g]? =w.heap[g]?)(e:∀i,i<ds.length->w'.heap[(Zu ds i).2.1]? =w.heap[(Zu ds i).2.1]?):ZbT base w' g c ds:=by
 refine⟨?_,fun i d=>ZeP (h.rows i d) (e i d),h.off,h.apart⟩
 obtain⟨f,l | ⟨k,j,b,a,n,m,o⟩⟩:=h.row
 · exact⟨f,Or.inl l⟩
 · refine⟨f,Or.inr ⟨k,j,b,a,n,?_,o⟩⟩
   injection a with a e2 e3
   injection a with a
   injection a with a
   rw [<-a,e0,a]
   exact m
def FtM(g:Nat)(ds:List Dm)(b:Nat):Prop:=b=g\/∃i,i<ds.length/\b=(Zu ds i).2.1
theorem Zcq{base:Nat}{w w':World}{g c:Nat}{ds:List Dm}(h:ZbT base w g c ds)(k:Sta (FtM g ds) w w'):ZbT base w' g c ds:=
 h.same15 (k.2 g (Or.inl rfl)) (fun i hi=>k.2 _ (Or.inr ⟨i,hi,rfl⟩))
theorem Za6{base:Nat}{w:World}{g c:Nat}{ds:List Dm}(h:ZbT base w g c ds)(b:Nat)(hb:FtM g ds b):base<=b/\b<w.heap.size:=by
 rcases hb with rfl | ⟨i,hi,rfl⟩
 · exact h.lt
 · exact (h.rows i hi).lt
theorem Zc7{base:Nat}{w:World}{g c:Nat}{ds:List Dm}(h:ZbT base w g c ds)(hn:ds.length<=60)(hat:∀x∈Zs ds,x.2.length<=4):
 Ow 93 95 (FtM g ds) w (.slice (some ⟨g,0,none⟩) ds.length c) (Z8 (Zs ds)):=by
 refine⟨fun b k=>(Za6 h b k).2,fun w' v p o z=>?_⟩
 refine (Zo8 base g c ds p w' (Zcq h v) hn hat o (by omega)).mono ?_
 rintro e y ⟨rfl,⟨A,f,t,j,d⟩,a⟩
 refine⟨rfl,⟨a.os,a.tape,a.output,a.size,fun b k l=>a.block b k (fun e=>l (Or.inl e)) (fun i m e=>l (Or.inr ⟨i,m,e⟩))⟩,fun W q=>?_⟩
 have n:=(f.same15 (w':=W) (q.2 g (Or.inl rfl)) (fun i m=>q.2 _ (Or.inr ⟨i,by omega,d i (by omega)⟩))).view
 rw [j] at n
 have r:=Zo3 (some ⟨g,0,none⟩) c (Zs ds) p W n (by rw [ZI];exact hn) hat o (by omega)
 rw [ZI] at r
 exact r.mono (fun e B ⟨s,u⟩=>⟨s,by rw [u];exact Below.refl _ _⟩)
theorem Zoe(cap:Nat)(k:Int)(w:World):Calls Tryz.prog 93 #[.slice none 0 cap,.int .i64 k] w fun e w'=>e=.returned (.int .i64 k)/\w'=w:=by
 go_enter Tryz.func93,Tryz.ntmps93
 go_wp2
 refine wp_loop_rounds 1 ?_
 rw [rounds_succ]
 go_wp2
 go_ret
 exact⟨rfl,rfl⟩
theorem Zof(cap:Nat)(k:Int)(w:World):Calls Tryz.prog 95 #[.slice none 0 cap,.int .i64 k] w fun e w'=>e=.returned (.int .i64 k)/\w'=w:=by
 go_enter Tryz.func95,Tryz.ntmps95
 go_wp2
 refine wp_loop_rounds 1 ?_
 rw [rounds_succ]
 go_wp2
 go_ret
 exact⟨rfl,rfl⟩
theorem ZgC(cap:Nat)(w:World):Ow 93 95 (fun _=>False) w (.slice none 0 cap) 0:=
 ⟨fun _ h=>h.elim,fun w' _ k0 _ _=>(Zoe cap k0 w').mono (by
  rintro e w2 ⟨rfl,rfl⟩
  exact⟨by simp,Cgd.refl _ _,fun W _=>(Zof cap k0 W).mono (by rintro e W' ⟨rfl,rfl⟩;exact⟨by simp,Below.refl _ _⟩)⟩)⟩
def FtL(gl n:Nat)(V:Nat->Value)(b:Nat):Prop:=b=gl\/∃i,i<n/\(V i).ownBlock=some b
theorem ZmT{base:Nat}{w w':World}{g n:Nat}{V:Nat->Value}{X:Nat->List Int}{lo:Nat}(h:NM base w g n V X lo)(k:Sta (FtL g n V) w w'):NM base w' g n V X lo:=
 h.same k.1 (k.2 g (Or.inl rfl)) (fun i hi q e=>k.2 q (Or.inr ⟨i,hi,e⟩))
theorem ZmU{base:Nat}{w:World}{g n:Nat}{V:Nat->Value}{X:Nat->List Int}{lo:Nat}(h:NM base w g n V X lo)(b:Nat)(hb:FtL g n V b):base<=b/\b<w.heap.size:=by
 have a:=h.ge
 have c:=h.out
 rcases hb with rfl | ⟨i,hi,e⟩
 · exact⟨h.ge,h.blk.lt⟩
 · have:=Zaq (h.own i hi) e
   omega
theorem ZmV{base:Nat}{w:World}{g n:Nat}{V:Nat->Value}{X:Nat->List Int}{lo:Nat}(cap:Nat)(h:NM base w g n V X lo)(hn:n<=61)(hx:∀i,i<n->(X i).length<=1000):
 Ow 175 176 (FtL g n V) w (.slice (some ⟨g,0,none⟩) n cap) (tot (fun j=>(X j).length) n):=by
 refine⟨fun b l=>(ZmU h b l).2,fun x v m p z=>?_⟩
 refine (Zpv base lo g n cap V X m x (ZmT h v) hn hx p (by omega)).mono ?_
 rintro e A ⟨rfl,r,d⟩
 refine⟨rfl,⟨d.os,d.tape,d.output,d.size,fun b l o=>d.block b l (fun e=>o (Or.inl e)) (fun i k e=>o (Or.inr ⟨i,k,e⟩))⟩,fun W y=>?_⟩
 have f:=ZmT r y
 exact (Zpw g n cap X m W (fun i k=>by
  obtain⟨a,c,e,s⟩:=Zcm (f.own i k)
  have q:=f.blk.cell k
  rw [e,Zod] at q
  exact⟨a,c,q,s⟩) hn hx p (by omega)).mono (fun e B ⟨u,t⟩=>⟨u,by rw [t];exact Below.refl _ _⟩)
theorem Zog(cap:Nat)(k:Int)(w:World):Calls Tryz.prog 175 #[.slice none 0 cap,.int .i64 k] w fun e w'=>e=.returned (.int .i64 k)/\w'=w:=by
 go_enter Tryz.func175,Tryz.ntmps175
 go_wp2
 refine wp_loop_rounds 1 ?_
 rw [rounds_succ]
 go_wp2
 go_ret
 exact⟨rfl,rfl⟩
theorem Zoh(cap:Nat)(k:Int)(w:World):Calls Tryz.prog 176 #[.slice none 0 cap,.int .i64 k] w fun e w'=>e=.returned (.int .i64 k)/\w'=w:=by
 go_enter Tryz.func176,Tryz.ntmps176
 go_wp2
 refine wp_loop_rounds 1 ?_
 rw [rounds_succ]
 go_wp2
 go_ret
 exact⟨rfl,rfl⟩
theorem Zle(cap:Nat)(w:World):Ow 175 176 (fun _=>False) w (.slice none 0 cap) 0:=
 ⟨fun _ h=>h.elim,fun w' _ k0 _ _=>(Zog cap k0 w').mono (by
  rintro e w2 ⟨rfl,rfl⟩
  exact⟨by simp,Cgd.refl _ _,fun W _=>(Zoh cap k0 W).mono (by rintro e W' ⟨rfl,rfl⟩;exact⟨by simp,Below.refl _ _⟩)⟩)⟩
def ZeX(ls:List (List Int)):Nat:=tot (fun j=>(cn ls j).length) ls.length
structure OwW(o:Bool)(S:Nat->Prop)(w:World)(vm vl:Value)(ms:List Mk)(ls:List (List Int)):Prop where
 bnd:∀b,S b->b<w.heap.size
 rows:o=true->∃(F G:Nat->Prop),Ow 93 95 F w vm (Z8 ms)/\Ow 175 176 G w vl (ZeX ls)/\(∀b,F b->S b)/\(∀b,G b->S b)/\(∀b,F b->¬G b)/\Z8 ms+ZeX ls<=100000
 view:∃am cm al cl,vm=.slice am ms.length cm/\vl=.slice al ls.length cl/\ms.length<=cm/\ls.length<=cl/\∀w',Sta S w w'->Zo w' am ms/\ZS w' al ls
theorem OwW.sm{o:Bool}{S:Nat->Prop}{w w':World}{vm vl:Value}{ms:List Mk}{ls:List (List Int)}(h:OwW o S w vm vl ms ls)(k:Sta S w w'):OwW o S w' vm vl ms ls:=by
 obtain⟨u,e,n,j,r,p,c1,c2,f⟩:=h.view
 exact⟨fun b d=>Nat.lt_of_lt_of_le (h.bnd b d) k.1,fun i=>by obtain⟨F,G,g,s,c,a,l,q⟩:=h.rows i;exact⟨F,G,g.sm (k.mono c),s.sm (k.mono a),c,a,l,q⟩,⟨u,e,n,j,r,p,c1,c2,fun m t=>f m (k.trans t)⟩⟩
theorem OwW.next{o:Bool}{S:Nat->Prop}{w w':World}{vm vl:Value}{ms:List Mk}{ls:List (List Int)}(h:OwW o S w vm vl ms ls)(L:Below w.heap.size w w'):OwW o S w' vm vl ms ls:=h.sm (Sta.below L h.bnd)
theorem OwW.zero(o:Bool)(w:World):OwW o (fun _=>False) w (.slice none 0 0) (.slice none 0 0) [] []:=
 ⟨fun _ h=>h.elim,fun _=>⟨fun _=>False,fun _=>False,ZgC 0 w,Zle 0 w,fun _ h=>h,fun _ h=>h,fun _ h=>h.elim,by decide⟩,⟨none,0,none,0,rfl,rfl,Nat.le_refl _,Nat.le_refl _,fun _ _=>⟨Or.inl rfl,Or.inl rfl⟩⟩⟩
theorem ZdN.ow{base:Nat}{w:World}{g gl:Nat}{ms:List Mk}{ls:List (List Int)}(h:ZdN base w g gl ms (cn ls) ls.length)(hm:Zt ms=true)(hml:ms.length=ls.length)(hl:ls.length<=61)(hx:∀i,(cn ls i).length<=1000):
 OwW true (Btw base w.heap.size) w (.slice (some ⟨g,0,none⟩) ms.length ms.length) (.slice (some ⟨gl,0,none⟩) ls.length ls.length) ms ls:=by
 obtain⟨G,s,V,K,N,D,q,m,z,v,O⟩:=h
 have t:=ZF hm
 have f:=q.own (by unfold maxLen;omega)
 have n:=Za5 ms G s
 have d:=ZbB ms G s
 have r:∀x∈ms,x.2.length<=4:=fun x u=>by
  obtain⟨i,a,rfl⟩:=List.getElem_of_mem u
  have:=((ZZ _ _).1 (Zam hm a)).2.2.1
  have J:=(ZaP this).2
  simpa [mat,List.getD,a] using J
 have y:=Zc7 f (by omega) (by rw [d];exact r)
 rw [n,d] at y
 have F:=ZmV ls.length m hl (fun i _=>hx i)
 have p:∀b,FtM g (ZaK ms G s) b->base<=b/\b<w.heap.size:=fun b c=>Za6 f b c
 have o:∀b,FtL gl ls.length V b->base<=b/\b<w.heap.size:=fun b c=>ZmU m b c
 have E:=ZcJ ms 60 4 t r
 have B:tot (fun j=>(cn ls j).length) ls.length<=61000:=by
  have:∀k,tot (fun j=>(cn ls j).length) k<=1000*k:=by
   intro k
   induction k with
   | zero=>simp [tot]
   | succ k ih=>have:=hx k;simp only [tot];omega
  have:=this ls.length
  omega
 refine⟨fun b c=>c.2,fun _=>⟨_,_,y,F,fun b c=>p b c,fun b c=>o b c,fun b c l=>?_,by unfold ZeX;omega⟩,⟨_,_,_,_,rfl,rfl,Nat.le_refl _,Nat.le_refl _,fun M A=>⟨?_,?_⟩⟩⟩
 · have C:=q.out
   have H:=m.out
   rcases c with rfl | ⟨i,a,rfl⟩
   · rcases l with e | ⟨j,hj,e⟩
     · exact z e
     · have:=Zaq (m.own j hj) e
       have:=q.out
       have:=q.within 0 (by omega)
       omega
   · rw [n] at a
     rw [ZbJ a] at l
     have L:=q.within i a
     rcases l with e | ⟨j,hj,e⟩
     · have I:G i=gl:=e
       omega
     · have:=Zaq (m.own j hj) e
       have I:D<=G i:=this.1
       omega
 · have:=(Zcq f (A.mono p)).view
   rw [d] at this
   exact this
 · have:=(ZmT m (A.mono o)).view
   have e:(List.range ls.length).map (cn ls)=ls:=by
    refine List.ext_getElem (by simp) (fun i z v=>?_)
    simp [cn,List.getD,v]
   rw [e] at this
   exact this
def HdW(S:Nat->Prop)(w:World)(vm vl:Value)(ms:List Mk)(ls:List (List Int))(k:Int):Prop:=
 ∃F G:Nat->Prop,Hd 95 F w vm k (k+Z8 ms)/\Hd 176 G w vl (k+Z8 ms) (k+Z8 ms+ZeX ls)/\(∀b,F b->S b)/\(∀b,G b->S b)
theorem HdW.sm{S:Nat->Prop}{w w':World}{vm vl:Value}{ms:List Mk}{ls:List (List Int)}{k:Int}(h:HdW S w vm vl ms ls k)(e:Sta S w w'):HdW S w' vm vl ms ls k:=by
 obtain⟨F,G,c,d,b,a⟩:=h
 exact⟨F,G,c.sm (e.mono b),d.sm (e.mono a),b,a⟩
def wsz(x:Wb):Nat:=Z8 x.1+ZeX x.2
def FtW(g n:Nat)(S:Nat->Nat->Prop)(b:Nat):Prop:=b=g\/∃i,i<n/\S i b
structure Zex(o:Bool)(g n:Nat)(S:Nat->Nat->Prop)(w:World)(vm vl:Nat->Value)(T:Nat->Wb):Prop where
 lt:g<w.heap.size
 cells:∀i,i<n->w.cell? ⟨g,i*2,none⟩=some (vm i)/\w.cell? ⟨g,i*2+1,none⟩=some (vl i)
 webs:∀i,i<n->OwW o (S i) w (vm i) (vl i) (T i).1 (T i).2
 off:∀i,i<n->¬S i g
 apart:∀i j,i<n->j<n->i≠j->∀b,S i b->¬S j b
 four:n<=4
theorem Zex.sm{o:Bool}{g n:Nat}{S:Nat->Nat->Prop}{w w':World}{vm vl:Nat->Value}{T:Nat->Wb}(h:Zex o g n S w vm vl T)(k:Sta (FtW g n S) w w'):Zex o g n S w' vm vl T:=
 ⟨Nat.lt_of_lt_of_le h.lt k.1,fun i hi=>⟨(k.cell (Or.inl rfl) _).trans (h.cells i hi).1,(k.cell (Or.inl rfl) _).trans (h.cells i hi).2⟩,fun i hi=>(h.webs i hi).sm (k.mono (fun _ hb=>Or.inr ⟨i,hi,hb⟩)),h.off,h.apart,h.four⟩
theorem Zex.bnd{o:Bool}{g n:Nat}{S:Nat->Nat->Prop}{w:World}{vm vl:Nat->Value}{T:Nat->Wb}(h:Zex o g n S w vm vl T)(b:Nat)(hb:FtW g n S b):b<w.heap.size:=by
 rcases hb with rfl | ⟨i,hi,hs⟩
 · exact h.lt
 · exact (h.webs i hi).bnd b hs
theorem Zex.size{g n:Nat}{S:Nat->Nat->Prop}{w:World}{vm vl:Nat->Value}{T:Nat->Wb}(h:Zex true g n S w vm vl T)(k:Nat)(hk:k<=n):tot (fun i=>wsz (T i)) k<=100000*k:=by
 induction k with
 | zero=>simp [tot]
 | succ k ih=>
   have a:=ih (by omega)
   obtain⟨F,G,-,-,-,-,-,b⟩:=(h.webs k (by omega)).rows rfl
   simp only [tot,wsz] at a ⊢
   omega
theorem Zir(f:Nat->Nat){a b:Nat}(h:a<=b):tot f a<=tot f b:=by
 induction b with
 | zero=>rw [show a=0 by omega];exact Nat.le_refl _
 | succ b ih=>
   rcases Nat.lt_or_ge a (b+1) with e | e
   · exact Nat.le_trans (ih (by omega)) (Nat.le_add_right _ _)
   · rw [show a=b+1 by omega];exact Nat.le_refl _
structure Zlf(g n:Nat)(S:Nat->Nat->Prop)(w wr:World)(vm vl:Nat->Value)(T:Nat->Wb)(k0:Int)(k:Nat):Prop where
 done:∀j,j<k->HdW (S j) wr (vm j) (vl j) (T j).1 (T j).2 (k0+(tot (fun i=>wsz (T i)) j:Nat))
 rest:∀j,k<=j->j<n->OwW true (S j) wr (vm j) (vl j) (T j).1 (T j).2
 chg:Cgd (fun b=>∃i,i<n/\S i b) w wr
theorem Zlf.step{g n:Nat}{S:Nat->Nat->Prop}{w wr w2 w3:World}{vm vl:Nat->Value}{T:Nat->Wb}{k0:Int}{k:Nat}(I:Zlf g n S w wr vm vl T k0 k)(hb:∀i,i<n->∀b,S i b->b<w.heap.size)(hap:∀i j,i<n->j<n->i≠j->∀b,S i b->¬S j b)(hk:k<n){F G:Nat->Prop}
 (hF:∀b,F b->S k b) (hG:∀b,G b->S k b) (hFG:∀b,F b->¬G b) (c1:Cgd F wr w2) (c2:Cgd G w2 w3)
 (d1:Hd 95 F w2 (vm k) (k0+(tot (fun i=>wsz (T i)) k:Nat)) (k0+(tot (fun i=>wsz (T i)) k:Nat)+Z8 (T k).1))
 (d2:Hd 176 G w3 (vl k) (k0+(tot (fun i=>wsz (T i)) k:Nat)+Z8 (T k).1) (k0+(tot (fun i=>wsz (T i)) k:Nat)+Z8 (T k).1+ZeX (T k).2)):
 Zlf g n S w w3 vm vl T k0 (k+1):=by
 have h:=I.chg.2.2.2.1
 have o:=c1.2.2.2.1
 have p:Cgd (S k) wr w3:=(c1.mono hF).trans (c2.mono hG)
 have a:∀j,j<n->j≠k->Sta (S j) wr w3:=fun j l m=>p.sm (fun b d=>Nat.lt_of_lt_of_le (hb j l b d) h) (fun b d=>hap j k l hk m b d)
 refine⟨fun j l=>?_,fun j l f=>(I.rest j (by omega) f).sm (a j f (by omega)),I.chg.trans (p.mono (fun b hb=>⟨k,hk,hb⟩))⟩
 rcases Nat.lt_or_ge j k with e | e
 · exact (I.done j e).sm (a j (by omega) (by omega))
 · obtain rfl:j=k:=by omega
   exact⟨F,G,d1.sm (c2.sm (fun b c=>Nat.lt_of_lt_of_le (hb j hk b (hF b c)) (Nat.le_trans h o)) (fun b c=>hFG b c)),d2,hF,hG⟩
theorem Zoi(g n cap:Nat)(S:Nat->Nat->Prop)(vm vl:Nat->Value)(T:Nat->Wb)(k0:Int)(w:World)(h:Zex true g n S w vm vl T)(h0:1<=k0)(h1:k0+(tot (fun i=>wsz (T i)) n:Nat)<=1000000):
 Calls Tryz.prog 140 #[.slice (some ⟨g,0,none⟩) n cap,.int .i64 k0] w fun e w'=>e=.returned (.int .i64 (k0+(tot (fun i=>wsz (T i)) n:Nat)))/\Zlf g n S w w' vm vl T k0 n:=by
 have d:=Za h
 have HB:Hid (∀i,i<n->∀b,S i b->b<w.heap.size):=fun i N b c=>(h.webs i N).bnd b c
 have M:Hid (∀k:Nat,tot (fun j=>wsz (T j)) (k+1)=tot (fun j=>wsz (T j)) k+(Z8 (T k).1+ZeX (T k).2)):=fun k=>rfl
 have R:Hid (∀k,k<=n->k0+(tot (fun j=>wsz (T j)) k:Nat)<=1000000):=fun k hk=>by have:=Zir (fun j=>wsz (T j)) hk;omega
 clear h h1
 go_enter Tryz.func140,Tryz.ntmps140
 go_wp2
 go_loopw [1,5] (fun kk i wr=>∃(k:Nat),k<=n/\i=.int .i64 k/\kk=.int .i64 (k0+(tot (fun j=>wsz (T j)) k:Nat))/\Zlf g n S w wr vm vl T k0 k) (fun _ i _=>n-(intOf i).toNat)
 case atStart=>exact⟨0,Nat.zero_le _,rfl,by simp [tot],fun j L=>absurd L (by omega),fun j _ L=>d.out.webs j L,Cgd.refl _ _⟩
 case round=>
  obtain⟨k,hk,rfl,rfl,q⟩:=hrel
  by_cases hlt:k<n
  · have h4:=d.out.four
    have z:=R.out (k+1) (by omega)
    have H:=M.out k
    obtain⟨F,G,o1,Z,hF,W,u,-⟩:=(q.rest k (Nat.le_refl _) hlt).rows rfl
    have o:wr.heap[g]? =w.heap[g]? :=q.chg.2.2.2.2 g d.out.lt (fun ⟨i,N,c⟩=>d.out.off i N c)
    have x:=(World.cell?_of_block (a:=⟨g,k*2,none⟩) o).trans (d.out.cells k hlt).1
    have y:=(d.out.cells k hlt).2
    have B:=Za (And.intro o y)
    have E:=Za (o1.act wr (Sta.refl _ _) (k0+(tot (fun j=>wsz (T j)) k:Nat)) (by omega) (by omega))
    have I:=Za Z
    have r:=Za (And.intro hF (And.intro W u))
    have C:=Za q
    clear o y o1 Z hF W u q
    obtain⟨K,O⟩:∃K:Int,k0+(tot (fun j=>wsz (T j)) k:Nat)=K:=⟨_,rfl⟩
    have ac:1<=K:=by omega
    have Q:K+Z8 (T k).1+ZeX (T k).2<=1000000:=by omega
    rw [O] at E ⊢
    have f:=Za (And.intro O (And.intro z H))
    clear O z H
    obtain⟨J,m⟩:∃J:Nat,Z8 (T k).1=J:=⟨_,rfl⟩
    obtain⟨nl,l⟩:∃nl:Nat,ZeX (T k).2=nl:=⟨_,rfl⟩
    rw [m,l] at Q
    rw [m] at E
    rw [l] at I
    have p:=Za (And.intro m l)
    clear m l
    obtain⟨a,U⟩:∃a,vm k=a:=⟨_,rfl⟩
    obtain⟨b,c⟩:∃b,vl k=b:=⟨_,rfl⟩
    rw [U] at E x
    rw [c] at I
    have A:=Za (And.intro U c)
    clear U c
    go_wp2_with fail
    refine E.out.mono ?_
    rintro e P ⟨rfl,c1,d1⟩
    have s:P.heap[g]? =wr.heap[g]? :=c1.2.2.2.2 g (by have:=C.out.chg.2.2.2.1;have:=d.out.lt;omega) (fun c=>d.out.off k hlt (r.out.1 g c))
    have t:=(World.cell?_of_block (a:=⟨g,k*2+1,none⟩) (s.trans B.out.1)).trans B.out.2
    rw [A.out.2] at t
    have v:Sta G wr P:=c1.sm (fun b c=>by have:=HB.out k hlt b (r.out.2.1 b c);have:=C.out.chg.2.2.2.1;omega) (fun b c V=>r.out.2.2 b V c)
    have D:=Za (I.out.act P v (K+J) (by omega) (by omega))
    have HC:=Za (And.intro c1 d1)
    clear c1 d1 s v x E I
    go_wp2_with fail
    refine D.out.mono ?_
    rintro e w3 ⟨rfl,c2,Y⟩
    have HW:Hid (Zlf g n S w w3 vm vl T k0 (k+1)):=by
     obtain⟨X,e2⟩:=p.out
     obtain⟨a1,a2⟩:=A.out
     refine C.out.step HB.out d.out.apart hlt r.out.1 r.out.2.1 r.out.2.2 HC.out.1 c2 ?_ ?_
     · rw [f.out.1,X,a1];exact HC.out.2
     · rw [f.out.1,X,e2,a2];exact Y
    clear c2 Y t D
    go_wp2_with fail
    go_roundw
    case rel=>exact⟨k+1,by omega,by go_num,by rw [f.out.2.2,<-f.out.1,p.out.1,p.out.2];congr 1;omega,HW.out⟩
    case measure=>simp [intOf];omega
  · obtain rfl:k=n:=by omega
    have C:=Za q
    clear q
    go_wp2
    go_ret
    exact⟨rfl,C.out⟩
theorem Zoj(g n cap:Nat)(S:Nat->Nat->Prop)(vm vl:Nat->Value)(T:Nat->Wb)(k0:Int)(w:World)(h4:n<=4)(hg:g<w.heap.size)(hc:∀i,i<n->w.cell? ⟨g,i*2,none⟩=some (vm i)/\w.cell? ⟨g,i*2+1,none⟩=some (vl i))
 (hd:∀j,j<n->HdW (S j) w (vm j) (vl j) (T j).1 (T j).2 (k0+(tot (fun i=>wsz (T i)) j:Nat))) (hb:∀i,i<n->∀b,S i b->b<w.heap.size) (h0:1<=k0) (h1:k0+(tot (fun i=>wsz (T i)) n:Nat)<=1000000):
 Calls Tryz.prog 141 #[.slice (some ⟨g,0,none⟩) n cap,.int .i64 k0] w fun e w'=>e=.returned (.int .i64 (k0+(tot (fun i=>wsz (T i)) n:Nat)))/\Below w.heap.size w w':=by
 have Q:=Za hc
 have HD:=Za hd
 have V:=Za hb
 have E:Hid (∀k:Nat,tot (fun j=>wsz (T j)) (k+1)=tot (fun j=>wsz (T j)) k+(Z8 (T k).1+ZeX (T k).2)):=fun k=>rfl
 have L:Hid (∀k,k<=n->k0+(tot (fun j=>wsz (T j)) k:Nat)<=1000000):=fun k Z=>by have:=Zir (fun j=>wsz (T j)) Z;omega
 clear hc hd hb h1
 go_enter Tryz.func141,Tryz.ntmps141
 go_wp2
 go_loopw [1,5] (fun kk i wr=>∃(k:Nat),k<=n/\i=.int .i64 k/\kk=.int .i64 (k0+(tot (fun j=>wsz (T j)) k:Nat))/\Below w.heap.size w wr) (fun _ i _=>n-(intOf i).toNat)
 case atStart=>exact⟨0,Nat.zero_le _,rfl,by simp [tot],Below.refl _ _⟩
 case round=>
  obtain⟨k,Z,rfl,rfl,h⟩:=hrel
  have B:=Za h
  by_cases hlt:k<n
  · have t:=L.out (k+1) (by omega)
    have A:=E.out k
    have v:Sta (S k) w wr:=Sta.below h (V.out k hlt)
    obtain⟨F,G,R,N,Y,O⟩:=(HD.out k hlt).sm v
    have m:=(h.cell (p:=⟨g,k*2,none⟩) hg).trans (Q.out k hlt).1
    have s:=(Q.out k hlt).2
    have z:=Za (R wr (Sta.refl _ _))
    have u:=Za N
    have HF:=Za (And.intro Y O)
    have q:=Za s
    clear h v R N Y O s
    obtain⟨K,I⟩:∃K:Int,k0+(tot (fun j=>wsz (T j)) k:Nat)=K:=⟨_,rfl⟩
    have a2:1<=K:=by omega
    rw [I] at z u ⊢
    have J:K+Z8 (T k).1+ZeX (T k).2<=1000000:=by omega
    have r:=Za (And.intro I (And.intro t A))
    clear I t A
    obtain⟨M,c⟩:∃M:Nat,Z8 (T k).1=M:=⟨_,rfl⟩
    obtain⟨X,d⟩:∃X:Nat,ZeX (T k).2=X:=⟨_,rfl⟩
    rw [c,d] at J
    rw [c] at z
    rw [c,d] at u
    have x:=Za (And.intro c d)
    clear c d
    obtain⟨a,W⟩:∃a,vm k=a:=⟨_,rfl⟩
    obtain⟨b,hb⟩:∃b,vl k=b:=⟨_,rfl⟩
    rw [W] at z m
    rw [hb] at u q
    clear W hb
    go_wp2_with fail
    refine z.out.mono ?_
    rintro e U ⟨rfl,H⟩
    have f:=B.out.trans (H.mono B.out.size)
    have C:=(f.cell (p:=⟨g,k*2+1,none⟩) hg).trans q.out
    have l:Sta G wr U:=Sta.below H (fun b hb=>by have:=V.out k hlt b (HF.out.2 b hb);have:=B.out.size;omega)
    have y:=Za (u.out U l)
    have o:=Za f
    clear H f l m z u
    go_wp2_with fail
    refine y.out.mono ?_
    rintro e w3 ⟨rfl,P⟩
    have D:=Za (o.out.trans (P.mono o.out.size))
    clear P C y
    go_wp2_with fail
    go_roundw
    case rel=>exact⟨k+1,by omega,by go_num,by rw [r.out.2.2,<-r.out.1,x.out.1,x.out.2];congr 1;omega,D.out⟩
    case measure=>simp [intOf];omega
  · obtain rfl:k=n:=by omega
    clear h
    go_wp2
    go_ret
    exact⟨rfl,B.out⟩
theorem Zok{g n:Nat}(cap:Nat){S:Nat->Nat->Prop}{w:World}{vm vl:Nat->Value}{T:Nat->Wb}(h:Zex true g n S w vm vl T):
 Ow 140 141 (FtW g n S) w (.slice (some ⟨g,0,none⟩) n cap) (tot (fun i=>wsz (T i)) n):=by
 refine⟨h.bnd,fun o x t u r=>?_⟩
 have c:=h.sm x
 refine (Zoi g n cap S vm vl T t o c u r).mono ?_
 rintro e v ⟨rfl,m⟩
 refine⟨rfl,m.chg.mono (fun b d=>Or.inr d),fun W p=>?_⟩
 have q:v.heap[g]? =o.heap[g]? :=m.chg.2.2.2.2 g c.lt (fun ⟨i,f,d⟩=>c.off i f d)
 have l:W.heap[g]? =o.heap[g]? :=(p.2 g (Or.inl rfl)).trans q
 have k:o.heap.size<=W.heap.size:=Nat.le_trans m.chg.2.2.2.1 p.1
 exact Zoj g n cap S vm vl T t W c.four (Nat.lt_of_lt_of_le c.lt k) (fun i f=>⟨(World.cell?_of_block (a:=⟨g,i*2,none⟩) l).trans (c.cells i f).1,(World.cell?_of_block (a:=⟨g,i*2+1,none⟩) l).trans (c.cells i f).2⟩)
  (fun j s=>(m.done j s).sm (p.mono (fun b d=>Or.inr ⟨j,s,d⟩))) (fun i f b d=>Nat.lt_of_lt_of_le ((c.webs i f).bnd b d) k) u r
theorem ZmW(cap:Nat)(k:Int)(w:World):Calls Tryz.prog 140 #[.slice none 0 cap,.int .i64 k] w fun e w'=>e=.returned (.int .i64 k)/\w'=w:=by
 go_enter Tryz.func140,Tryz.ntmps140
 go_wp2
 refine wp_loop_rounds 1 ?_
 rw [rounds_succ]
 go_wp2
 go_ret
 exact⟨rfl,rfl⟩
theorem ZmX(cap:Nat)(k:Int)(w:World):Calls Tryz.prog 141 #[.slice none 0 cap,.int .i64 k] w fun e w'=>e=.returned (.int .i64 k)/\w'=w:=by
 go_enter Tryz.func141,Tryz.ntmps141
 go_wp2
 refine wp_loop_rounds 1 ?_
 rw [rounds_succ]
 go_wp2
 go_ret
 exact⟨rfl,rfl⟩
theorem ZmY(cap:Nat)(w:World):Ow 140 141 (fun _=>False) w (.slice none 0 cap) 0:=
 ⟨fun _ h=>h.elim,fun w' _ k0 h0 _=>(ZmW cap k0 w').mono (by
  rintro e w2 ⟨rfl,rfl⟩
  exact⟨by simp,Cgd.refl _ _,fun W _=>(ZmX cap k0 W).mono (by rintro e W' ⟨rfl,rfl⟩;exact⟨by simp,Below.refl _ _⟩)⟩)⟩
def Za4(vm vl:Nat->Value)(j:Nat):Value:=if j % 2=0 then vm (j / 2) else vl (j / 2)
theorem FB.madeW(w:World)(n:Nat)(t:TypeId):FB (w.alloc (.cells (madeCells #[.slice none 0 0,.slice none 0 0] (n*2)) t)) w.heap.size (n*2) (Za4 (fun _=>.slice none 0 0) (fun _=>.slice none 0 0)) t:=by
 have e:madeCells #[.slice none 0 0,.slice none 0 0] (n*2)=((List.range (n*2)).map (Za4 (fun _=>.slice none 0 0) (fun _=>.slice none 0 0))).toArray:=by
  apply Array.ext
  · simp [size_madeCells]
  · intro i b c
    have a:i % 2=0\/i % 2=1:=Nat.mod_two_eq_zero_or_one i
    rcases a with a | a <;> simp [madeCells,Za4,a]
 unfold FB
 rw [e]
 show (w.heap.push _)[w.heap.size]? =_
 simp
structure Zb7(o:Bool)(g n:Nat)(S:Nat->Nat->Prop)(w:World)(vm vl:Nat->Value)(T:Nat->Wb):Prop where
 blk:FB w g (n*2) (Za4 vm vl) 158
 webs:∀i,i<n->OwW o (S i) w (vm i) (vl i) (T i).1 (T i).2
 off:∀i,i<n->¬S i g
 apart:∀i j,i<n->j<n->i≠j->∀b,S i b->¬S j b
 four:n<=4
theorem Zb7.cells{o:Bool}{g n:Nat}{S:Nat->Nat->Prop}{w:World}{vm vl:Nat->Value}{T:Nat->Wb}(h:Zb7 o g n S w vm vl T)(i:Nat)(hi:i<n):w.cell? ⟨g,i*2,none⟩=some (vm i)/\w.cell? ⟨g,i*2+1,none⟩=some (vl i):=by
 have b:=h.blk.cell (i:=i*2) (by omega)
 have a:=h.blk.cell (i:=i*2+1) (by omega)
 have c:Za4 vm vl (i*2)=vm i:=by unfold Za4;rw [if_pos (by omega),show i*2 / 2=i by omega]
 have d:Za4 vm vl (i*2+1)=vl i:=by unfold Za4;rw [if_neg (by omega),show (i*2+1) / 2=i by omega]
 rw [c] at b
 rw [d] at a
 exact⟨b,a⟩
theorem Zb7.ts{o:Bool}{g n:Nat}{S:Nat->Nat->Prop}{w:World}{vm vl:Nat->Value}{T:Nat->Wb}(h:Zb7 o g n S w vm vl T):Zex o g n S w vm vl T:=⟨h.blk.lt,h.cells,h.webs,h.off,h.apart,h.four⟩
theorem Zb7.sm{o:Bool}{g n:Nat}{S:Nat->Nat->Prop}{w w':World}{vm vl:Nat->Value}{T:Nat->Wb}(h:Zb7 o g n S w vm vl T)(k:Sta (FtW g n S) w w'):Zb7 o g n S w' vm vl T:=
 ⟨h.blk.same (k.2 g (Or.inl rfl)),fun i hi=>(h.webs i hi).sm (k.mono (fun _ hb=>Or.inr ⟨i,hi,hb⟩)),h.off,h.apart,h.four⟩
theorem Zb7.next{o:Bool}{g n:Nat}{S:Nat->Nat->Prop}{w w':World}{vm vl:Nat->Value}{T:Nat->Wb}(h:Zb7 o g n S w vm vl T)(L:Below w.heap.size w w'):Zb7 o g n S w' vm vl T:=h.sm (Sta.below L h.ts.bnd)
theorem Zb7.start{o:Bool}{g n:Nat}{w:World}(h:FB w g (n*2) (Za4 (fun _=>.slice none 0 0) (fun _=>.slice none 0 0)) 158)(hn:n<=4):Zb7 o g n (fun _ _=>False) w (fun _=>.slice none 0 0) (fun _=>.slice none 0 0) (fun _=>([],[])):=
 ⟨h,fun _ _=>OwW.zero o w,fun _ _ h=>h,fun _ _ _ _ _ _ h=>h.elim,hn⟩
def ZcA(f:Nat->Nat->Prop)(m:Nat)(v:Nat->Prop)(i:Nat):Nat->Prop:=if i=m then v else f i
def updW(f:Nat->Wb)(m:Nat)(v:Wb)(i:Nat):Wb:=if i=m then v else f i
theorem Zb7.put{o:Bool}{g n:Nat}{S:Nat->Nat->Prop}{w w':World}{vm vl:Nat->Value}{T:Nat->Wb}(h:Zb7 o g n S w vm vl T)(L:Below w.heap.size w w'){k:Nat}{F:Nat->Prop}{xm xl:Value}{t:Wb}(hw:OwW o F w' xm xl t.1 t.2)(hF:∀b,F b->w.heap.size<=b):
 Zb7 o g n (ZcA S k F) ((w'.setCell ⟨g,k*2,none⟩ xm).setCell ⟨g,k*2+1,none⟩ xl) (ZaX vm k xm) (ZaX vl k xl) (updW T k t):=by
 have r:=h.blk.lt
 have q:=h.next L
 have far:∀b,b≠g->((w'.setCell ⟨g,k*2,none⟩ xm).setCell ⟨g,k*2+1,none⟩ xl).heap[b]? =w'.heap[b]? :=fun b a=>(Below.heap_setCell _ ⟨g,k*2+1,none⟩ xl b (fun e=>a e)).trans (Below.heap_setCell _ ⟨g,k*2,none⟩ xm b (fun e=>a e))
 have p:w'.heap.size<=((w'.setCell ⟨g,k*2,none⟩ xm).setCell ⟨g,k*2+1,none⟩ xl).heap.size:=by rw [Ze,Ze];exact Nat.le_refl _
 refine⟨((q.blk.set (k*2) xm).set (k*2+1) xl).congr (fun j f=>?_),fun i c=>?_,fun i c=>?_,fun i j c f l b=>?_,h.four⟩
 · unfold ZaX Za4
   by_cases e1:j=k*2+1
   · rw [if_pos e1,if_neg (by omega)]
     show xl=if j / 2=k then xl else vl (j / 2)
     rw [if_pos (by omega)]
   · rw [if_neg e1]
     by_cases e0:j=k*2
     · rw [if_pos e0,if_pos (by omega)]
       show xm=if j / 2=k then xm else vm (j / 2)
       rw [if_pos (by omega)]
     · rw [if_neg e0]
       by_cases e2:j % 2=0
       · rw [if_pos e2,if_pos e2]
         show vm (j / 2)=if j / 2=k then xm else vm (j / 2)
         rw [if_neg (by omega)]
       · rw [if_neg e2,if_neg e2]
         show vl (j / 2)=if j / 2=k then xl else vl (j / 2)
         rw [if_neg (by omega)]
 · unfold ZcA ZaX updW
   by_cases e:i=k
   · rw [if_pos e,if_pos e,if_pos e,if_pos e]
     exact hw.sm ⟨p,fun b a=>far b (fun m=>by have:=hF b a;omega)⟩
   · rw [if_neg e,if_neg e,if_neg e,if_neg e]
     exact (q.webs i c).sm ⟨p,fun b a=>far b (fun m=>h.off i c (m ▸ a))⟩
 · unfold ZcA
   by_cases e:i=k
   · rw [if_pos e]
     exact fun a=>by have:=hF g a;omega
   · rw [if_neg e]
     exact h.off i c
 · unfold ZcA
   by_cases e:i=k
   · rw [if_pos e,if_neg (by omega)]
     exact fun a d=>by have:=hF b a;have:=(h.webs j f).bnd b d;omega
   · rw [if_neg e]
     by_cases e':j=k
     · rw [if_pos e']
       exact fun a d=>by have:=hF b d;have:=(h.webs i c).bnd b a;omega
     · rw [if_neg e']
       exact h.apart i j c f l b
theorem Zb7.as{o:Bool}{g n:Nat}{S:Nat->Nat->Prop}{w:World}{vm vl:Nat->Value}{T U:Nat->Wb}(h:Zb7 o g n S w vm vl T)(e:∀i,i<n->T i=U i):Zb7 o g n S w vm vl U:=
 ⟨h.blk,fun i hi=>by rw [<-e i hi];exact h.webs i hi,h.off,h.apart,h.four⟩
def ZbU(vm vl:Nat->Value)(n:Nat):List Value:=(List.range (n*2)).map (Za4 vm vl)
theorem Zha{vm vl:Nat->Value}{n j:Nat}(h:j<n*2):(ZbU vm vl n)[j]? =some (Za4 vm vl j):=by simp [ZbU,h]
theorem Zlg(vm vl:Nat->Value)(n:Nat)(xm xl:Value):ZbU (ZaX vm n xm) (ZaX vl n xl) (n+1)=ZbU vm vl n++[xm,xl]:=by
 refine List.ext_getElem (by simp [ZbU];omega) (fun j d h=>?_)
 have g:j<(n+1)*2:=by simpa [ZbU] using d
 have f:(ZbU (ZaX vm n xm) (ZaX vl n xl) (n+1))[j]=Za4 (ZaX vm n xm) (ZaX vl n xl) j:=by simp [ZbU]
 rw [f]
 unfold Za4 ZaX
 by_cases hl:j<n*2
 · rw [List.getElem_append_left (by simpa [ZbU] using hl)]
   simp only [ZbU,List.getElem_map,List.getElem_range,Za4]
   have a:¬(j / 2=n):=by omega
   by_cases e:j % 2=0
   · rw [if_pos e,if_pos e];simp [a]
   · rw [if_neg e,if_neg e];simp [a]
 · rw [List.getElem_append_right (by simp [ZbU];omega)]
   have b:(ZbU vm vl n).length=n*2:=by simp [ZbU]
   have c:j / 2=n:=by omega
   by_cases e:j % 2=0
   · have:j-(ZbU vm vl n).length=0:=by omega
     rw [if_pos e];simp [this,c]
   · have:j-(ZbU vm vl n).length=1:=by omega
     rw [if_neg e];simp [this,c]
structure TsR(o:Bool)(base:Nat)(w:World)(v:Value)(ts:List Wb)(S:Nat->Nat->Prop)(vm vl:Nat->Value):Prop where
 row:w.ownsRow base 158 2 v ts.length (ZbU vm vl ts.length)
 webs:∀i,i<ts.length->OwW o (S i) w (vm i) (vl i) (Zi ts i).1 (Zi ts i).2
 off:∀i,i<ts.length->∀g,v.ownBlock=some g->¬S i g
 apart:∀i j,i<ts.length->j<ts.length->i≠j->∀b,S i b->¬S j b
 four:ts.length<=4
 low:∀i b,i<ts.length->S i b->base<=b
theorem TsR.start(o:Bool)(base:Nat)(w:World):TsR o base w (.slice none 0 0) [] (fun _ _=>False) (fun _=>.slice none 0 0) (fun _=>.slice none 0 0):=
 ⟨⟨rfl,Or.inl ⟨rfl,rfl⟩⟩,fun i hi=>absurd hi (by simp),fun i hi=>absurd hi (by simp),fun i j hi=>absurd hi (by simp),by simp,fun i b hi=>absurd hi (by simp)⟩
def FtR(v:Value)(n:Nat)(S:Nat->Nat->Prop)(b:Nat):Prop:=v.ownBlock=some b\/∃i,i<n/\S i b
theorem Zci{base:Nat}{w w':World}{e:TypeId}{size n:Nat}{v:Value}{xs:List Value}(h:w.ownsRow base e size v n xs)(k:∀g,v.ownBlock=some g->w'.heap[g]? =w.heap[g]?):w'.ownsRow base e size v n xs:=by
 obtain⟨b,f | ⟨g,cap,a,rfl,c,d,i⟩⟩:=h
 · exact⟨b,Or.inl f⟩
 · exact⟨b,Or.inr ⟨g,cap,a,rfl,c,(k g rfl).trans d,i⟩⟩
theorem TsR.sm{o:Bool}{base:Nat}{w w':World}{v:Value}{ts:List Wb}{S:Nat->Nat->Prop}{vm vl:Nat->Value}(h:TsR o base w v ts S vm vl)(k:Sta (FtR v ts.length S) w w'):TsR o base w' v ts S vm vl:=
 ⟨Zci h.row (fun g e=>k.2 g (Or.inl e)),fun i hi=>(h.webs i hi).sm (k.mono (fun _ hb=>Or.inr ⟨i,hi,hb⟩)),h.off,h.apart,h.four,h.low⟩
theorem TsR.bnd{o:Bool}{base:Nat}{w:World}{v:Value}{ts:List Wb}{S:Nat->Nat->Prop}{vm vl:Nat->Value}(h:TsR o base w v ts S vm vl)(b:Nat)(hb:FtR v ts.length S b):base<=b/\b<w.heap.size:=by
 rcases hb with e | ⟨i,hi,hs⟩
 · exact World.ownsRow.lt h.row b e
 · exact⟨h.low i b hi hs,(h.webs i hi).bnd b hs⟩
theorem TsR.next{o:Bool}{base:Nat}{w w':World}{v:Value}{ts:List Wb}{S:Nat->Nat->Prop}{vm vl:Nat->Value}(h:TsR o base w v ts S vm vl)(L:Below w.heap.size w w'):TsR o base w' v ts S vm vl:=h.sm (Sta.below L (fun b hb=>(h.bnd b hb).2))
theorem TsR.form{o:Bool}{base:Nat}{w:World}{v:Value}{ts:List Wb}{S:Nat->Nat->Prop}{vm vl:Nat->Value}(h:TsR o base w v ts S vm vl):∃a c,v=.slice a ts.length c/\ts.length<=c/\Zp true w a ts:=by
 obtain⟨D,⟨rfl,d⟩ | ⟨g,cap,x,rfl,C,A,u,B⟩⟩:=h.row
 · exact⟨none,0,by rw [d],by omega,Or.inl (List.length_eq_zero_iff.1 d)⟩
 · have b:=h.row
   refine⟨some ⟨g,0,none⟩,cap,rfl,u,Or.inr ⟨g,0,rfl,(World.ownsRow.lt b g rfl).2,fun i p=>?_⟩⟩
   obtain⟨y,q,j,z,k,t,e,l,r⟩:=(h.webs i p).view
   have c0:=World.ownsRow.cellAt b (i*2) (by omega)
   have c1:=World.ownsRow.cellAt b (i*2+1) (by omega)
   rw [Zha (by omega)] at c0 c1
   have n:Za4 vm vl (i*2)=vm i:=by unfold Za4;rw [if_pos (by omega),show i*2 / 2=i by omega]
   have f:Za4 vm vl (i*2+1)=vl i:=by unfold Za4;rw [if_neg (by omega),show (i*2+1) / 2=i by omega]
   rw [n,k] at c0
   rw [f,t] at c1
   obtain⟨m,s⟩:=r w (Sta.refl _ _)
   rw [Nat.zero_add]
   exact⟨y,q,j,z,c0,c1,m,s,fun _=>⟨e,l⟩⟩
theorem TsR.snoc{o:Bool}{base:Nat}{w w8:World}{v:Value}{ts:List Wb}{S:Nat->Nat->Prop}{vm vl:Nat->Value}(h:TsR o base w v ts S vm vl){gg cc:Nat}{F:Nat->Prop}{xm xl:Value}{t:Wb}
 (hown:w8.ownsRow base 158 2 (.slice (some ⟨gg,0,none⟩) (ts.length+1) cc) (ts.length+1) (ZbU vm vl ts.length++[xm,xl])) (hsz:w.heap.size<=w8.heap.size) (hsame:∀b,b<w.heap.size->v.ownBlock≠some b->w8.heap[b]? =w.heap[b]?)
 (hw:OwW o F w8 xm xl t.1 t.2) (hF:∀b,F b->w.heap.size<=b/\b≠gg) (hg:v.ownBlock=some gg\/w.heap.size<=gg) (hb:base<=w.heap.size) (h4:ts.length+1<=4):
 TsR o base w8 (.slice (some ⟨gg,0,none⟩) (ts.length+1) cc) (ts++[t]) (ZcA S ts.length F) (ZaX vm ts.length xm) (ZaX vl ts.length xl):=by
 have a:(ts++[t]).length=ts.length+1:=by simp
 have l:Zi (ts++[t]) ts.length=t:=by simp [Zi,List.getD]
 have f:∀i,i<ts.length->Zi (ts++[t]) i=Zi ts i:=fun i c=>by simp [Zi,List.getD,List.getElem?_append_left c]
 refine⟨by rw [a,Zlg];exact hown,fun i c=>?_,fun i c g e=>?_,fun i j c p n b=>?_,by rw [a];exact h4,fun i b c k=>?_⟩
 · rw [a] at c
   unfold ZcA ZaX
   by_cases e:i=ts.length
   · rw [if_pos e,if_pos e,if_pos e,e,l];exact hw
   · rw [if_neg e,if_neg e,if_neg e,f i (by omega)]
     exact (h.webs i (by omega)).sm ⟨hsz,fun b hb=>hsame b ((h.webs i (by omega)).bnd b hb) (fun m=>h.off i (by omega) b m hb)⟩
 · rw [a] at c
   have m:g=gg:=by simpa [Value.ownBlock] using e.symm
   unfold ZcA
   by_cases e2:i=ts.length
   · rw [if_pos e2];exact fun hb=>(hF g hb).2 m
   · rw [if_neg e2]
     intro hb
     have q:=(h.webs i (by omega)).bnd g hb
     rcases hg with h1 | h1
     · exact h.off i (by omega) g (by rw [m];exact h1) hb
     · omega
 · rw [a] at c p
   unfold ZcA
   by_cases e:i=ts.length
   · rw [if_pos e,if_neg (by omega)]
     exact fun hb d=>by have:=hF b hb;have:=(h.webs j (by omega)).bnd b d;omega
   · rw [if_neg e]
     by_cases e2:j=ts.length
     · rw [if_pos e2]
       exact fun hb d=>by have:=hF b d;have:=(h.webs i (by omega)).bnd b hb;omega
     · rw [if_neg e2]
       exact h.apart i j (by omega) (by omega) n b
 · rw [a] at c
   unfold ZcA at k
   by_cases e:i=ts.length
   · rw [if_pos e] at k;have:=hF b k;omega
   · rw [if_neg e] at k;exact h.low i b (by omega) k
structure TsO(o:Bool)(S:Nat->Prop)(w:World)(v:Value)(ts:List Wb):Prop where
 bnd:∀b,S b->b<w.heap.size
 ow:o=true->∃N,N<=400000/\Ow 140 141 S w v N
 view:∃a c,v=.slice a ts.length c/\ts.length<=c/\∀w',Sta S w w'->Zp true w' a ts
theorem TsO.sm{o:Bool}{S:Nat->Prop}{w w':World}{v:Value}{ts:List Wb}(h:TsO o S w v ts)(k:Sta S w w'):TsO o S w' v ts:=by
 obtain⟨a,c,e,j,f⟩:=h.view
 exact⟨fun b d=>Nat.lt_of_lt_of_le (h.bnd b d) k.1,fun m=>by obtain⟨N,l,g⟩:=h.ow m;exact⟨N,l,g.sm k⟩,⟨a,c,e,j,fun i n=>f i (k.trans n)⟩⟩
theorem TsO.next{o:Bool}{S:Nat->Prop}{w w':World}{v:Value}{ts:List Wb}(h:TsO o S w v ts)(L:Below w.heap.size w w'):TsO o S w' v ts:=h.sm (Sta.below L h.bnd)
theorem TsO.mono{o:Bool}{S T:Nat->Prop}{w:World}{v:Value}{ts:List Wb}(h:TsO o S w v ts)(ht:∀b,T b->b<w.heap.size)(k:∀b,S b->T b):TsO o T w v ts:=by
 obtain⟨a,c,e,j,d⟩:=h.view
 exact⟨ht,fun l=>by obtain⟨N,i,f⟩:=h.ow l;exact⟨N,i,f.mono ht k⟩,⟨a,c,e,j,fun g m=>d g (m.mono k)⟩⟩
theorem TsO.zero(o:Bool)(w:World):TsO o (fun _=>False) w (.slice none 0 0) []:=
 ⟨fun _ h=>h.elim,fun _=>⟨0,by omega,ZmY 0 w⟩,⟨none,0,rfl,Nat.le_refl _,fun _ _=>Or.inl rfl⟩⟩
theorem Zex.out{o:Bool}{g:Nat}{S:Nat->Nat->Prop}{w:World}{vm vl:Nat->Value}{ts:List Wb}(cap:Nat)(hc:ts.length<=cap)(h:Zex o g ts.length S w vm vl (Zi ts)):TsO o (FtW g ts.length S) w (.slice (some ⟨g,0,none⟩) ts.length cap) ts:=by
 refine⟨h.bnd,fun e=>?_,⟨_,cap,rfl,hc,fun r q=>?_⟩⟩
 · subst e
   refine⟨_,?_,Zok cap h⟩
   have:=h.size ts.length (Nat.le_refl _)
   have:=h.four
   omega
 · have a:=h.sm q
   refine Or.inr ⟨g,0,rfl,a.lt,fun i b=>?_⟩
   obtain⟨s,c,l,f,n,m,k,t,d⟩:=(a.webs i b).view
   have c0:=(a.cells i b).1
   have c1:=(a.cells i b).2
   obtain⟨p,j⟩:=d r (Sta.refl _ _)
   rw [n] at c0
   rw [m] at c1
   rw [Nat.zero_add]
   exact⟨s,c,l,f,c0,c1,p,j,fun _=>⟨k,t⟩⟩
theorem ZmZ{S:Nat->Prop}{w:World}{v:Value}{N:Nat}(d:Int)(h:Ow 140 141 S w v N):Ow 94 96 S w (.agg #[.int .i64 d,v]) N:=by
 refine⟨h.bnd,fun j q E C D=>?_⟩
 obtain⟨W,r⟩:∃W,j.alloc (.cells #[.int .i64 d,v] 39)=W:=⟨_,rfl⟩
 have n:=balZ r
 have y:W.cell? ⟨j.heap.size,1,none⟩=some v:=by rw [<-r];simp
 have a:∀b,S b->b<j.heap.size:=fun b p=>Nat.lt_of_lt_of_le (h.bnd b p) q.1
 have t:=Za (h.act W (q.trans (Sta.below n a)) E C D)
 have x:=Za n
 have i:=Za a
 clear q n a h
 go_enter Tryz.func94,Tryz.ntmps94
 go_wp2_with fail
 refine t.out.mono ?_
 rintro e F ⟨rfl,c1,u⟩
 have k:=Za (And.intro c1 u)
 clear c1 u r y
 go_wp2_with fail
 go_ret
 refine⟨rfl,(Cgd.of x.out).trans k.out.1,fun l c=>?_⟩
 obtain⟨o,g⟩:∃W,l.alloc (.cells #[.int .i64 d,v] 39)=W:=⟨_,rfl⟩
 have f:=balZ g
 have A:o.cell? ⟨l.heap.size,1,none⟩=some v:=by rw [<-g];simp
 have B:=Za (k.out.2 o (c.trans (Sta.below f (fun b p=>by have:=i.out b p;have:=x.out.size;have:=k.out.1.2.2.2.1;have:=c.1;omega))))
 have m:=Za f
 clear k t c f i
 go_enter Tryz.func96,Tryz.ntmps96
 go_wp2_with fail
 refine B.out.mono ?_
 rintro e G ⟨rfl,s⟩
 have z:=Za (Zb m.out s)
 clear s g A
 go_wp2_with fail
 go_ret
 exact⟨rfl,z.out⟩
structure StO(o:Bool)(S:Nat->Prop)(w:World)(v:Value)(wd:Int)(ms:List Mk)(d:Int)(ts:List Wb)(nx:Int):Prop where
 bnd:∀b,S b->b<w.heap.size
 ow:o=true->∃N,N<=500000/\Ow 55 57 S w v N
 view:∃am cm aw cw,v=.agg #[.int .i64 wd,.slice am ms.length cm,.int .i64 d,.slice aw ts.length cw,.int .i64 nx]/\ms.length<=cm/\ts.length<=cw/\∀w',Sta S w w'->Zo w' am ms/\Zp true w' aw ts
theorem StO.sm{o:Bool}{S:Nat->Prop}{w w':World}{v:Value}{wd:Int}{ms:List Mk}{d:Int}{ts:List Wb}{nx:Int}(h:StO o S w v wd ms d ts nx)(k:Sta S w w'):StO o S w' v wd ms d ts nx:=by
 obtain⟨q,c,l,i,e,c1,c2,f⟩:=h.view
 exact⟨fun b a=>Nat.lt_of_lt_of_le (h.bnd b a) k.1,fun n=>by obtain⟨N,m,g⟩:=h.ow n;exact⟨N,m,g.sm k⟩,⟨q,c,l,i,e,c1,c2,fun j p=>f j (k.trans p)⟩⟩
theorem StO.mono{o:Bool}{S T:Nat->Prop}{w:World}{v:Value}{wd:Int}{ms:List Mk}{d:Int}{ts:List Wb}{nx:Int}(h:StO o S w v wd ms d ts nx)(ht:∀b,T b->b<w.heap.size)(k:∀b,S b->T b):StO o T w v wd ms d ts nx:=by
 obtain⟨p,a,j,g,e,c1,c2,c⟩:=h.view
 exact⟨ht,fun m=>by obtain⟨N,l,f⟩:=h.ow m;exact⟨N,l,f.mono ht k⟩,⟨p,a,j,g,e,c1,c2,fun i n=>c i (n.mono k)⟩⟩
theorem Zm0{S F G:Nat->Prop}{w:World}{vm vt:Value}{N K:Nat}(wd d nx:Int)(hm:Ow 93 95 F w vm N)(ht:Ow 140 141 G w vt K)(hS:∀b,S b->b<w.heap.size)(hF:∀b,F b->S b)(hG:∀b,G b->S b)(hd:∀b,F b->¬G b):
 Ow 55 57 S w (.agg #[.int .i64 wd,vm,.int .i64 d,vt,.int .i64 nx]) (N+K):=by
 refine⟨hS,fun j hs k0 h0 h1=>?_⟩
 have C:=ZmZ d ht
 obtain⟨W,x⟩:∃W,j.alloc (.cells #[.int .i64 wd,vm,.int .i64 d,vt,.int .i64 nx] 41)=W:=⟨_,rfl⟩
 have P:=balZ x
 have O:=altZ x
 have X:W.cell? ⟨j.heap.size,1,none⟩=some vm:=by rw [<-x];simp
 have t:W.cell? ⟨j.heap.size,2,none⟩=some (.int .i64 d):=by rw [<-x];simp
 have u:W.cell? ⟨j.heap.size,3,none⟩=some vt:=by rw [<-x];simp
 have o:∀b,S b->b<j.heap.size:=fun b i=>Nat.lt_of_lt_of_le (hS b i) hs.1
 have v:=hs.trans (Sta.below P o)
 have HM:=Za (hm.act W (v.mono hF) k0 h0 (by omega))
 have HT:=Za (C.sm (v.mono hG))
 have HB:=Za P
 have f:=Za o
 have HK:=Za (And.intro t u)
 have c:=Za (And.intro hF (And.intro hG hd))
 clear hs v P o hm ht C t u hF hG hd hS
 go_enter Tryz.func55,Tryz.ntmps55
 go_wp2_with fail
 refine HM.out.mono ?_
 rintro e Q ⟨rfl,c1,d1⟩
 have E:¬F j.heap.size:=fun h=>by have:=f.out _ (c.out.1 _ h);omega
 have J:=c1.2.2.2.2 j.heap.size O E
 have Y:=(World.cell?_of_block (a:=⟨j.heap.size,2,none⟩) J).trans HK.out.1
 have V:=(World.cell?_of_block (a:=⟨j.heap.size,3,none⟩) J).trans HK.out.2
 have H:Sta G W Q:=c1.sm (fun b i=>by have:=f.out b (c.out.2.1 b i);omega) (fun b i hf=>c.out.2.2 b hf i)
 have A:=Za (HT.out.act Q H (k0+N) (by omega) (by omega))
 have I:=Za (And.intro c1 d1)
 clear c1 d1 E J H HM HT x X
 go_wp2_with fail
 refine A.out.mono ?_
 rintro e w2 ⟨rfl,c2,d2⟩
 have D:=Za (And.intro c2 d2)
 clear c2 d2 A Y V
 go_wp2_with fail
 go_ret
 have Z:=I.out.1.2.2.2.1
 have R:=D.out.1.2.2.2.1
 refine⟨ZK (by omega),(Cgd.of HB.out).trans ((I.out.1.mono c.out.1).trans (D.out.1.mono c.out.2.1)),fun m q=>?_⟩
 obtain⟨k,g⟩:∃W,m.alloc (.cells #[.int .i64 wd,vm,.int .i64 d,vt,.int .i64 nx] 41)=W:=⟨_,rfl⟩
 have s:=balZ g
 have n:=altZ g
 have X:k.cell? ⟨m.heap.size,1,none⟩=some vm:=by rw [<-g];simp
 have t:k.cell? ⟨m.heap.size,2,none⟩=some (.int .i64 d):=by rw [<-g];simp
 have u:k.cell? ⟨m.heap.size,3,none⟩=some vt:=by rw [<-g];simp
 have l:Sta S w2 k:=q.trans (Sta.below s (fun b i=>by have:=f.out b i;have:=q.1;omega))
 have y:Sta F Q k:=(D.out.1.sm (T:=F) (fun b i=>by have:=f.out b (c.out.1 b i);omega) (fun b i hg=>c.out.2.2 b i hg)).trans (l.mono c.out.1)
 have HE:=Za (I.out.2 k y)
 have z:=Za (fun W4 (L:Below k.heap.size k W4)=>D.out.2 W4 ((l.mono c.out.2.1).trans (Sta.below L (fun b i=>by have:=f.out b (c.out.2.1 b i);have:=l.1;omega))))
 have M:=Za s
 have r:=Za (And.intro t u)
 clear I D q s f t u l y c HK Z R
 go_enter Tryz.func57,Tryz.ntmps57
 go_wp2_with fail
 refine HE.out.mono ?_
 rintro e w4 ⟨rfl,B⟩
 have t:=(B.cell (p:=⟨m.heap.size,2,none⟩) n).trans r.out.1
 have u:=(B.cell (p:=⟨m.heap.size,3,none⟩) n).trans r.out.2
 have U:=Za (z.out w4 B)
 have HL:=Za (Zb M.out B)
 clear B g X HE z r
 go_wp2_with fail
 refine U.out.mono ?_
 rintro e w5 ⟨rfl,L5⟩
 have a0:=Za (Zb HL.out L5)
 clear L5 t u
 go_wp2_with fail
 go_ret
 exact⟨ZK (by omega),a0.out⟩
theorem StO.of{o:Bool}{S F G:Nat->Prop}{w:World}{am:Option Addr}{cm:Nat}{vt:Value}{N:Nat}(wd:Int){ms:List Mk}(d:Int){ts:List Wb}(nx:Int)(hm:o=true->Ow 93 95 F w (.slice am ms.length cm) N)(hN:N<=100000)(hc:ms.length<=cm)(hv:∀w',Sta F w w'->Zo w' am ms)(ht:TsO o G w vt ts)(hS:∀b,S b->b<w.heap.size)(hF:∀b,F b->S b)(hG:∀b,G b->S b)(hd:∀b,F b->¬G b):
 StO o S w (.agg #[.int .i64 wd,.slice am ms.length cm,.int .i64 d,vt,.int .i64 nx]) wd ms d ts nx:=by
 obtain⟨a,c,e,g,k⟩:=ht.view
 have f:=ht.ow
 rw [e] at f ⊢
 exact⟨hS,fun h=>by obtain⟨K,l,j⟩:=f h;exact⟨N+K,by omega,Zm0 wd d nx (hm h) j hS hF hG hd⟩,⟨am,cm,a,c,rfl,hc,g,fun w' i=>⟨hv w' (i.mono hF),k w' (i.mono hG)⟩⟩⟩
theorem StO.zero(o:Bool)(w:World):StO o (fun _=>False) w (.agg #[.int .i64 0,.slice none 0 0,.int .i64 0,.slice none 0 0,.int .i64 0]) 0 [] 0 [] 0:=
 StO.of (F:=fun _=>False) (G:=fun _=>False) 0 0 0 (fun _=>ZgC 0 w) (by omega) (Nat.le_refl _) (fun _ _=>Or.inl rfl) (TsO.zero o w) (fun _ h=>h.elim) (fun _ h=>h) (fun _ h=>h) (fun _ h=>h.elim)
theorem Zb7.tsr{o:Bool}{base g:Nat}{S:Nat->Nat->Prop}{w:World}{vm vl:Nat->Value}{ts:List Wb}(h:Zb7 o g ts.length S w vm vl (Zi ts))(hg:base<=g)(hs:∀i b,S i b->base<=b):TsR o base w (.slice (some ⟨g,0,none⟩) ts.length ts.length) ts S vm vl:=
 ⟨h.blk.own hg (by have:=h.four;unfold maxLen;omega),h.webs,fun i hi q e=>by injection e with e;rw [<-e];exact h.off i hi,h.apart,h.four,fun i b _ hb=>hs i b hb⟩
theorem TsR.out{o:Bool}{base:Nat}{w:World}{v:Value}{ts:List Wb}{S:Nat->Nat->Prop}{vm vl:Nat->Value}(h:TsR o base w v ts S vm vl):TsO o (Btw base w.heap.size) w v ts:=by
 have c:=h.bnd
 obtain⟨r,⟨rfl,k⟩ | ⟨g,cap,m,rfl,j,q,l,s⟩⟩:=h.row
 · obtain rfl:ts=[]:=List.length_eq_zero_iff.1 k
   exact (TsO.zero o w).mono (fun b a=>a.2) (fun b a=>a.elim)
 · have d:=h.row
   have p:Zex o g ts.length S w vm vl (Zi ts):=⟨(World.ownsRow.lt d g rfl).2,fun i e=>by
    have c0:=World.ownsRow.cellAt d (i*2) (by omega)
    have c1:=World.ownsRow.cellAt d (i*2+1) (by omega)
    rw [Zha (by omega)] at c0 c1
    have n:Za4 vm vl (i*2)=vm i:=by unfold Za4;rw [if_pos (by omega),show i*2 / 2=i by omega]
    have f:Za4 vm vl (i*2+1)=vl i:=by unfold Za4;rw [if_neg (by omega),show (i*2+1) / 2=i by omega]
    rw [n] at c0
    rw [f] at c1
    exact⟨c0,c1⟩,h.webs,fun i e=>h.off i e g rfl,h.apart,h.four⟩
   refine (p.out cap l).mono (fun b a=>a.2) (fun b a=>c b ?_)
   rcases a with rfl | a
   · exact Or.inl rfl
   · exact Or.inr a
theorem Zol(v:Bool)(aw:Option Addr)(cw:Nat)(d:Int)(ts:List Wb)(w:World)(hv:Zp v w aw ts)(hok:Zap d ts=true)(hsm:Z1 ts):
 Calls Tryz.prog 167 #[.slice aw ts.length cw,.func (.func 168) #[] #[]] w fun e w'=>∃g,e=.returned (.slice (some ⟨g,0,none⟩) ts.length ts.length)/\w.heap.size<=g/\(∃S vm vl,Zb7 true g ts.length S w' vm vl (Zi ts)/\∀i b,S i b->w.heap.size<=b)/\Below w.heap.size w w':=by
 have h4:=(ZdM hok).1
 obtain⟨W,T⟩:∃W,w.alloc (.cells (madeCells #[.slice none 0 0,.slice none 0 0] (ts.length*2)) 158)=W:=⟨_,rfl⟩
 have hB:=balZ T
 have J:FB W w.heap.size (ts.length*2) (Za4 (fun _=>.slice none 0 0) (fun _=>.slice none 0 0)) 158:=by rw [<-T];exact FB.madeW w _ _
 have a5:∀M:World,(Instr.makeSlice 37 (.int .i64 (ts.length:Int)) (.int .i64 (ts.length:Int))).run Tryz.prog M=.ok (.slice (some ⟨M.heap.size,0,none⟩) ts.length ts.length) (M.alloc (.cells (madeCells #[.slice none 0 0,.slice none 0 0] (ts.length*2)) 158)):=fun M=>Zai (P:=Tryz.prog) 37 158 (.agg #[.slice none 0 0,.slice none 0 0]) 2 48 Tryz.underlying37 Tryz.info158 .i64 .i64 ts.length (by omega) (by omega) M
 have HB:=Za hB
 have HV:=Za (fun W' (L:Below w.heap.size w W')=>hv.next L)
 have p:=Za (And.intro hok hsm)
 have C:=Za (Zb7.start (o:=true) J (by omega))
 have HW:=Za T
 have H4:=Za h4
 clear hv hB hok hsm h4 J T
 go_enter Tryz.func167,Tryz.ntmps167
 go_wp2_with fail
 clear a5
 rw [HW.out]
 obtain⟨g,Z⟩:∃g,w.heap.size=g:=⟨_,rfl⟩
 have Q:=Za Z
 rw [Z] at HB C HV ⊢
 clear Z HW
 go_loopg [13] ts.length (fun gk iv wr=>∃(k:Nat) (S:Nat->Nat->Prop) (vm vl:Nat->Value),k<=ts.length/\ts.length-k<=gk/\iv=.int .i64 k/\Zb7 true g ts.length S wr vm vl (fun i=>if i<k then Zi ts i else ([],[]))/\(∀i b,S i b->g<=b)/\Below g w wr)
 case atStart=>exact⟨0,_,_,_,Nat.zero_le _,Nat.sub_le _ _,rfl,C.out.as (fun i _=>by rw [if_neg (by omega)]),fun _ _ h=>h.elim,HB.out⟩
 case round=>
  obtain⟨k,S,vm,vl,hk,ao,rfl,hp,K,L⟩:=hrel
  have HP:=Za hp
  have HL:=Za L
  have G:=Za K
  have u:=HV.out wr L
  clear hp L K
  by_cases hlt:k<ts.length
  · obtain⟨wb,wo,am,cm,V,cl,rfl,ax,c0,c1,I,H,-⟩:=u.web hlt
    have av:=n0Z k
    have ak:(k:Int)<(ts.length:Int):=by omega
    have ap:k<4:=by have:=H4.out;omega
    have a:=Zd2 p.out.1 (n:=k) (by have:=H4.out;omega)
    obtain⟨l,A⟩:∃l,wr.alloc (.cells #[.slice am (Zi ts k).1.length cm,.slice V (Zi ts k).2.length cl] 158)=l:=⟨_,rfl⟩
    have z:=balZ A
    have y0:l.cell? ⟨wr.heap.size,0,none⟩=some (.slice am (Zi ts k).1.length cm):=by rw [<-A];simp
    have y1:l.cell? ⟨wr.heap.size,1,none⟩=some (.slice V (Zi ts k).2.length cl):=by rw [<-A];simp
    have s:=Za (HP.out.next z)
    have t:=Za (ZfV Q.out HL.out z)
    have Y:=Za (Zkm am V cm cl (Zi ts k).1 (Zi ts k).2 l (I.next z) (H.next z) (ZY a) (p.out.2.2 k).1 (p.out.2.2 k).2)
    have q:=Za a
    have aa:g<=l.heap.size:=by have:=t.out.size;have:=Q.out;omega
    clear I H u z a
    obtain⟨O,c⟩:∃O,(Zi ts k).1.length=O:=⟨_,rfl⟩
    obtain⟨R,f⟩:∃R,(Zi ts k).2.length=R:=⟨_,rfl⟩
    have y:=Za (And.intro c f)
    rw [c,f] at Y A
    rw [c] at y0 c0
    rw [f] at y1 c1
    clear c f
    go_wp2_with fail
    clear A c0 c1
    refine Y.out.mono ?_
    rintro e w3 ⟨g3,a4,rfl,r,N⟩
    have j:=Zco q.out
    obtain⟨-,-,B,m⟩:=ZaW q.out
    rw [<-y.out.2] at r
    have F:=r.ow (ZY q.out) j.symm (by omega) (fun i=>by have:=m i;omega)
    have E:=Za (s.out.put N (k:=k) F (fun b x=>x.1))
    have D:=s.out.next N
    have f0:=D.blk.frozen (k*2)
    have f1:=D.blk.frozen (k*2+1)
    have e0:=(D.cells k hlt).1
    have e1:=(D.cells k hlt).2
    rw [y.out.1,y.out.2] at E
    have HE:Hid (Below g w ((w3.setCell ⟨g,k*2,none⟩ (.slice (some ⟨g3,0,none⟩) O O)).setCell ⟨g,k*2+1,none⟩ (.slice (some ⟨a4,0,none⟩) R R))):=
     ((ZfV Q.out t.out N).setCell (by show g<=g;exact Nat.le_refl _) _).setCell (by show g<=g;exact Nat.le_refl _) _
    have X:Hid (∀i b,ZcA S k (Btw l.heap.size w3.heap.size) i b->g<=b):=fun i b x=>by
     unfold ZcA at x
     by_cases e:i=k
     · rw [if_pos e] at x;have:=x.1;omega
     · rw [if_neg e] at x;exact G.out i b x
    clear r N D F j B m s t Y y0 y1
    go_wp2_with fail
    go_roundg (ts.length-(k+1))
    case rel=>exact⟨k+1,_,_,_,by omega,Nat.le_refl _,by go_num,E.out.as (fun i _=>by
     unfold updW
     by_cases e:i=k
     · rw [if_pos e,if_pos (by omega),e]
     · rw [if_neg e]
       show (if i<k then Zi ts i else ([],[]))=_
       by_cases e2:i<k
       · rw [if_pos e2,if_pos (by omega)]
       · rw [if_neg e2,if_neg (by omega)]),X.out,HE.out⟩
    case measure=>omega
  · obtain rfl:k=ts.length:=by omega
    have ar:¬((ts.length:Int)<(ts.length:Int)):=by omega
    clear u
    go_wp2_with fail
    go_ret
    rw [Q.out]
    exact⟨g,rfl,Nat.le_refl _,⟨S,⟨vm,vl,HP.out.as (U:=Zi ts) (fun i a1=>by rw [if_pos a1])⟩,G.out⟩,HL.out⟩
theorem ZfD(v:Bool)(aw:Option Addr)(cw:Nat)(d:Int)(ts:List Wb)(w:World)(hv:Zp v w aw ts)(hok:Zap d ts=true)(hsm:Z1 ts):
 Calls Tryz.prog 128 #[.agg #[.int .i64 d,.slice aw ts.length cw]] w fun e w'=>∃vt,e=.returned (.agg #[.int .i64 d,vt])/\(∃S vm vl,TsR true w.heap.size w' vt ts S vm vl)/\Below w.heap.size w w':=by
 obtain⟨a,j⟩:∃W,w.alloc (.cells #[.int .i64 d,.slice aw ts.length cw] 39)=W:=⟨_,rfl⟩
 have u:=balZ j
 have D:Two a w.heap.size (.int .i64 d) (.slice aw ts.length cw) 39:=by rw [<-j];exact Two.new w _ _ _
 obtain⟨W,s⟩:∃W,a.alloc (.cells #[.int .i64 0,.slice none 0 0] 39)=W:=⟨_,rfl⟩
 have N:=balZ s
 have s1:=salZ j
 have s2:W.heap.size=w.heap.size+1+1:=by rw [<-s];simp [s1]
 have J:Two W (w.heap.size+1) (.int .i64 0) (.slice none 0 0) 39:=by rw [<-s,<-s1];exact Two.new a _ _ _
 have O:=Za (And.intro s1 s2)
 have E:=Za u
 have U:=Za J
 have Z:Hid (∀c,Below a.heap.size a c->c.cell? ⟨w.heap.size,0,none⟩=some (.int .i64 d)/\c.cell? ⟨w.heap.size,1,none⟩=some (.slice aw ts.length cw)):=fun c L=>⟨(D.below L).c0,(D.below L).c1⟩
 have y:Hid (∀c,Below a.heap.size a c->Calls Tryz.prog 167 #[.slice aw ts.length cw,.func (.func 168) #[] #[]] c fun e w'=>∃g,e=.returned (.slice (some ⟨g,0,none⟩) ts.length ts.length)/\c.heap.size<=g/\(∃S vm vl,Zb7 true g ts.length S w' vm vl (Zi ts)/\∀i b,S i b->c.heap.size<=b)/\Below c.heap.size c w'):=fun c L=>Zol v aw cw d ts c (hv.next (Zb u L)) hok hsm
 have F:=Za N.drew
 have T:=Za ((Below.refl W.heap.size W).drew)
 have o:Hid _:=aw2Z j s
 clear hv s1 s2 u N D J s j hsm hok
 go_enter Tryz.func128,Tryz.ntmps128
 go_upto_region 1 with fail
 rw [o.out]
 clear o
 refine Zl (S:=fun c=>Below a.heap.size a c) (fuel:=3) [0,1,2,3] (by kernel_rfl) (by kernel_rfl) (by kernel_rfl) (by kernel_rfl) F.out (fun _=>?_)
 iterate 4 (refine⟨_,rfl,?_⟩;apply Exists.intro;refine⟨Or.inl ⟨by rfl,fun w' t=>?_⟩,?_⟩;(focus (obtain⟨e0,e1⟩:=Z.out w' t;go_simp<;>with_reducible rfl));simp only [Act.put,tkgZ])
 refine Zc 4 (by kernel_rfl) rfl (fun K q=>?_)
 go_simp
 refine (y.out _ F.out).mono ?_
 rintro e C ⟨g,rfl,x,⟨S,vm,vl,B,M⟩,z⟩
 have I:=Zb F.out z
 have G:=Zb T.out z
 refine q.out _ _ I (fun _=>?_)
 clear q K z
 have f:=U.out.below G
 have X:w.heap.size+1<W.drew.heap.size:=by show _<W.heap.size;have:=O.out.2;omega
 have R:a.heap.size=w.heap.size+1:=O.out.1
 have Q:=f.c0
 have Y:=f.c1
 have f0:=f.frozen 0
 have f1:=f.frozen 1
 refine Zz 1 [5] (by kernel_rfl) (by kernel_rfl) (by kernel_rfl) I ?_
 iterate 1
  refine⟨_,rfl,?_⟩
  apply Exists.intro
  refine⟨Or.inl ⟨by rfl,fun w' t=>?_⟩,?_⟩
  · first
    | (go_simp;done)
    | (go_simp;with_reducible rfl)
  simp only [Act.put,tkgZ]
 refine Zc 6 (by kernel_rfl) rfl (fun K q=>?_)
 go_simp
 obtain⟨n,h⟩:∃n,(C.setCell ⟨w.heap.size+1,0,none⟩ (.int .i64 d)).setCell ⟨w.heap.size+1,1,none⟩ (.slice (some ⟨g,0,none⟩) ts.length ts.length)=n:=⟨_,rfl⟩
 have p:a.heap.size<=w.heap.size+1:=by omega
 have H:Below a.heap.size a n:=by rw [<-h];exact (I.setCell p _).setCell p _
 have A:Two n (w.heap.size+1) (.int .i64 d) (.slice (some ⟨g,0,none⟩) ts.length ts.length) 39:=by rw [<-h];exact (f.set0 _).set1 _
 have l:∀b,FtW g ts.length S b->W.drew.heap.size<=b/\b<C.heap.size:=fun b m=>⟨by rcases m with rfl | ⟨i,_,hs⟩;exact x;exact M i b hs,B.ts.bnd b m⟩
 have k:Sta (FtW g ts.length S) C n:=by
  rw [<-h]
  exact⟨by rw [Ze,Ze];exact Nat.le_refl _,fun b m=>(Below.heap_setCell _ ⟨w.heap.size+1,1,none⟩ _ b (fun e=>by have e':b=w.heap.size+1:=e;have:=l b m;omega)).trans (Below.heap_setCell _ ⟨w.heap.size+1,0,none⟩ _ b (fun e=>by have e':b=w.heap.size+1:=e;have:=l b m;omega))⟩
 have r:TsR true w.heap.size n (.slice (some ⟨g,0,none⟩) ts.length ts.length) ts S vm vl:=(B.sm k).tsr (base:=w.heap.size) (by omega) (fun i b m=>by have:=M i b m;omega)
 rw [h]
 have z0:=A.c0
 have V:=A.c1
 have P:=Za (And.intro r (Zb E.out H))
 refine q.out _ _ H (fun _=>?_)
 clear q K h A H Q Y f0 f1 f B r k l
 refine wpAnyH_done (by kernel_rfl) ?_ _
 refine NoPanic.normal ?_
 try simp only [Exit.then]
 go_wp2_with fail
 refine bodyPost_ret (v:=.agg #[.int .i64 d,.slice (some ⟨g,0,none⟩) ts.length ts.length]) (by simp [results,Tryz.results128,go_sem,z0,V]) rfl ?_
 exact⟨_,rfl,⟨_,_,_,P.out.1⟩,P.out.2⟩
theorem Zlh(v:Bool)(aw:Option Addr)(cw:Nat)(d:Int)(ts:List Wb)(w:World)(hv:Zp v w aw ts)(hok:Zap d ts=true)(hsm:Z1 ts):
 Calls Tryz.prog 128 #[.agg #[.int .i64 d,.slice aw ts.length cw]] w fun e w'=>∃vt,e=.returned (.agg #[.int .i64 d,vt])/\TsO true (Btw w.heap.size w'.heap.size) w' vt ts/\Below w.heap.size w w':=
 (ZfD v aw cw d ts w hv hok hsm).mono (fun _ _ ⟨vt,e,⟨_,_,_,h⟩,L⟩=>⟨vt,e,h.out,L⟩)
theorem ZaG{w:World}{q:Nat}{a b c d e a' b' c' d' e':Value}{t:TypeId}(h:w.heap[q]? =some (.cells #[a,b,c,d,e] t)):(((((w.setCell ⟨q,0,none⟩ a').setCell ⟨q,1,none⟩ b').setCell ⟨q,2,none⟩ c').setCell ⟨q,3,none⟩ d').setCell ⟨q,4,none⟩ e').heap[q]? =some (.cells #[a',b',c',d',e'] t):=by
 simp [World.setCell,Array.getElem?_modify,h]
theorem ZaB{w:World}{q b:Nat}{a' b' c' d' e':Value}(h:b≠q):(((((w.setCell ⟨q,0,none⟩ a').setCell ⟨q,1,none⟩ b').setCell ⟨q,2,none⟩ c').setCell ⟨q,3,none⟩ d').setCell ⟨q,4,none⟩ e').heap[b]? =w.heap[b]? :=by
 rw [Below.heap_setCell _ ⟨q,4,none⟩ _ b h,Below.heap_setCell _ ⟨q,3,none⟩ _ b h,Below.heap_setCell _ ⟨q,2,none⟩ _ b h,Below.heap_setCell _ ⟨q,1,none⟩ _ b h,Below.heap_setCell _ ⟨q,0,none⟩ _ b h]
theorem ZmD{base:Nat}{w:World}{g:Nat}{ms:List Mk}{G cc:Nat->Nat}{lo hi:Nat}(ho:Zaw base w g ms.length ms G cc lo hi)(hm:Zt ms=true):
 Ow 93 95 (FtM g (ZaK ms G cc)) w (.slice (some ⟨g,0,none⟩) ms.length ms.length) (Z8 ms)/\Z8 ms<=300/\(∀b,FtM g (ZaK ms G cc) b->b=g\/lo<=b/\b<hi)/\(∀b,FtM g (ZaK ms G cc) b->b<w.heap.size)/\∀w',Sta (FtM g (ZaK ms G cc)) w w'->Zo w' (some ⟨g,0,none⟩) ms:=by
 have k:=ZF hm
 have d:=ho.own (by unfold maxLen;omega)
 have f:=Za5 ms G cc
 have c:=ZbB ms G cc
 have e:∀x∈ms,x.2.length<=4:=fun x j=>by
  obtain⟨i,a,rfl⟩:=List.getElem_of_mem j
  have:=((ZZ _ _).1 (Zam hm a)).2.2.1
  have n:=(ZaP this).2
  simpa [mat,List.getD,a] using n
 have l:=Zc7 d (by omega) (by rw [c];exact e)
 rw [f,c] at l
 refine⟨l,ZcJ ms 60 4 k e,fun b h=>?_,fun b h=>(Za6 d b h).2,fun w' m=>?_⟩
 · rcases h with rfl | ⟨i,a,rfl⟩
   · exact Or.inl rfl
   · rw [f] at a
     rw [ZbJ a]
     exact Or.inr (ho.within i a)
 · have:=(Zcq d m).view
   rw [c] at this
   exact this
def Zid(base:Nat)(w:World)(g:Nat)(vt:Value)(ms:List Mk)(ts:List Wb):Prop:=
 ∃G cc lo hi F,Zaw base w g ms.length ms G cc lo hi/\TsO true F w vt ts/\(∀b,F b->base<=b/\hi<=b)/\¬F g
theorem Zet(v:Bool)(am aw:Option Addr)(cm cw:Nat)(wd:Int)(ms:List Mk)(d:Int)(ts:List Wb)(nx:Int)(w:World)(hm:Zo w am ms)(hv:Zp v w aw ts)(hmb:Zt ms=true)(hok:Zap d ts=true)(hsm:Z0 ms ts):
 Calls Tryz.prog 84 #[.agg #[.int .i64 wd,.slice am ms.length cm,.int .i64 d,.slice aw ts.length cw,.int .i64 nx]] w fun e w'=>∃g vt,e=.returned (.agg #[.int .i64 wd,.slice (some ⟨g,0,none⟩) ms.length ms.length,.int .i64 d,vt,.int .i64 nx])/\Zid w.heap.size w' g vt ms ts/\Below w.heap.size w w':=by
 obtain⟨c,l⟩:∃W,w.alloc (.cells #[.int .i64 wd,.slice am ms.length cm,.int .i64 d,.slice aw ts.length cw,.int .i64 nx] 41)=W:=⟨_,rfl⟩
 have N:=balZ l
 have j:ZbA v c w.heap.size am aw cm cw wd ms d ts nx:=by rw [<-l];exact ZbA.box hm hv
 obtain⟨W,E⟩:∃W,c.alloc (.cells #[.int .i64 0,.slice none 0 0,.int .i64 0,.slice none 0 0,.int .i64 0] 41)=W:=⟨_,rfl⟩
 have b2:=balZ E
 have s1:=salZ l
 have s2:W.heap.size=w.heap.size+1+1:=by rw [<-E];simp [s1]
 have TR:=nal2Z E s1
 have V:=Za (And.intro s1 s2)
 have P:=Za N
 have HR:=Za TR
 have HS:Hid (∀a,Below c.heap.size c a->a.cell? ⟨w.heap.size,0,none⟩=some (.int .i64 wd)/\a.cell? ⟨w.heap.size,1,none⟩=some (.slice am ms.length cm)/\a.cell? ⟨w.heap.size,2,none⟩=some (.int .i64 d)/\a.cell? ⟨w.heap.size,3,none⟩=some (.slice aw ts.length cw)/\a.cell? ⟨w.heap.size,4,none⟩=some (.int .i64 nx)):=fun a C=>⟨(j.below C).c0,(j.below C).c1,(j.below C).c2,(j.below C).c3,(j.below C).c4⟩
 have Y:Hid (∀a,Below c.heap.size c a->Calls Tryz.prog 126 #[.slice am ms.length cm,.func (.func 127) #[] #[]] a fun e w'=>∃g,e=.returned (.slice (some ⟨g,0,none⟩) ms.length ms.length)/\(∃G F H M,Zaw a.heap.size w' g ms.length ms G F H M)/\Below a.heap.size a w'):=fun a L=>Zkl am cm ms a (hm.next (Zb N L)) hmb hsm.1
 have O:Hid (∀a,Below c.heap.size c a->Calls Tryz.prog 128 #[.agg #[.int .i64 d,.slice aw ts.length cw]] a fun e w'=>∃vt,e=.returned (.agg #[.int .i64 d,vt])/\TsO true (Btw a.heap.size w'.heap.size) w' vt ts/\Below a.heap.size a w'):=fun a L=>Zlh v aw cw d ts a (hv.next (Zb N L)) hok hsm.2.1
 have Z:=Za b2.drew
 have BW:=Za ((Below.refl W.heap.size W).drew)
 have B:Hid _:=aw2Z l E
 clear hm hv j s1 s2 N b2 TR E l hok hsm hmb
 go_enter Tryz.func84,Tryz.ntmps84
 go_upto_region 1 with fail
 rw [B.out]
 clear B
 refine Zl (S:=fun a=>Below c.heap.size c a) (fuel:=4) [0,1,2,3,5,6,8,9] (by kernel_rfl) (by kernel_rfl) (by kernel_rfl) (by kernel_rfl) Z.out (fun _=>?_)
 iterate 8 (refine⟨_,rfl,?_⟩;apply Exists.intro;refine⟨Or.inl ⟨by rfl,fun w' u=>?_⟩,?_⟩;(focus (obtain⟨e0,e1,e2,e3,e4⟩:=HS.out w' u;go_simp<;>with_reducible rfl));simp only [Act.put,tkgZ])
 refine Zc 4 (by kernel_rfl) rfl (fun K n=>?_)
 go_simp
 refine (Y.out _ Z.out).mono ?_
 rintro e v2 ⟨g,rfl,⟨G,F,H,M,r⟩,R⟩
 have Q:=Zb Z.out R
 have t:=Zb BW.out R
 refine n.out _ _ Q (fun _=>?_)
 clear n K R
 refine Zc 7 (by kernel_rfl) rfl (fun K n=>?_)
 go_simp
 refine (O.out _ Q).mono ?_
 rintro e J ⟨vt,rfl,U,I⟩
 obtain⟨x,y,rfl,-,-⟩:=U.view
 have L5:=Zb Q I
 have T:=Zb t I
 have f:=r.next I
 refine n.out _ _ L5 (fun _=>?_)
 clear n K I
 have p:=(T.block (w.heap.size+1) (by have:=V.out.2;omega)).trans HR.out
 have ap:w.heap.size+1<W.drew.heap.size:=by show _<W.heap.size;have:=V.out.2;omega
 have ak:W.drew.heap.size<=v2.heap.size:=t.size
 have a9:c.heap.size=w.heap.size+1:=V.out.1
 have a5:=r.top
 have a3:=r.blk.lt
 have an:=r.ge
 have a6:=r.out
 obtain⟨r0,r1,r2,r3,r4,q,aq⟩:=Zk p
 have f0:=q 0
 have f1:=q 1
 have f2:=q 2
 have f3:=q 3
 have f4:=q 4
 refine Zz 1 [10] (by kernel_rfl) (by kernel_rfl) (by kernel_rfl) L5 ?_
 iterate 1
  refine⟨_,rfl,?_⟩
  apply Exists.intro
  refine⟨Or.inl ⟨by rfl,fun w' u=>?_⟩,?_⟩
  · first
    | (go_simp;done)
    | (go_simp;with_reducible rfl)
  simp only [Act.put,tkgZ]
 refine Zc 11 (by kernel_rfl) rfl (fun K n=>?_)
 go_simp
 obtain⟨m,h⟩:∃m,((((J.setCell ⟨w.heap.size+1,0,none⟩ (.int .i64 wd)).setCell ⟨w.heap.size+1,1,none⟩ (.slice (some ⟨g,0,none⟩) ms.length ms.length)).setCell ⟨w.heap.size+1,2,none⟩ (.int .i64 d)).setCell ⟨w.heap.size+1,3,none⟩ (.slice x ts.length y)).setCell ⟨w.heap.size+1,4,none⟩ (.int .i64 nx)=m:=⟨_,rfl⟩
 have k:c.heap.size<=w.heap.size+1:=by omega
 have X:Below c.heap.size c m:=by rw [<-h];exact ((((L5.setCell k _).setCell k _).setCell k _).setCell k _).setCell k _
 have TZ:m.heap[w.heap.size+1]? =some (.cells #[.int .i64 wd,.slice (some ⟨g,0,none⟩) ms.length ms.length,.int .i64 d,.slice x ts.length y,.int .i64 nx] 41):=by rw [<-h];exact ZaG p
 have far:∀b,b≠w.heap.size+1->m.heap[b]? =J.heap[b]? :=fun b o=>by rw [<-h];exact ZaB o
 have s:m.heap.size=J.heap.size:=by rw [<-h];simp [World.setCell]
 have A:Zaw w.heap.size m g ms.length ms G F H M:=Zaw.low ⟨f.blk.same (far g (by omega)),fun i z=>ZeP (f.rows i z) (far _ (by have:=f.within i z;omega)),f.rise,f.within,by rw [s];exact f.top,f.ge,f.out⟩ (by omega)
 have D:TsO true (Btw v2.heap.size J.heap.size) m (.slice x ts.length y) ts:=U.sm ⟨by omega,fun b o=>far b (by have:=o.1;omega)⟩
 rw [h]
 obtain⟨z0,z1,z2,z3,z4,-,-⟩:=Zk TZ
 have HF:Hid (Zid w.heap.size m g (.slice x ts.length y) ms ts/\Below w.heap.size w m):=⟨⟨G,F,H,M,_,A,D,fun b o=>⟨by have:=o.1;omega,by have:=o.1;omega⟩,fun o=>by have:=o.1;omega⟩,Zb P.out X⟩
 refine n.out _ _ X (fun _=>?_)
 clear n K h TZ X r0 r1 r2 r3 r4 q f0 f1 f2 f3 f4 p f r U A D far s
 refine wpAnyH_done (by kernel_rfl) ?_ _
 refine NoPanic.normal ?_
 try simp only [Exit.then]
 go_wp2_with fail
 refine bodyPost_ret (v:=.agg #[.int .i64 wd,.slice (some ⟨g,0,none⟩) ms.length ms.length,.int .i64 d,.slice x ts.length y,.int .i64 nx]) (by simp [results,Tryz.results84,go_sem,z0,z1,z2,z3,z4]) rfl ?_
 exact⟨g,_,rfl,HF.out.1,HF.out.2⟩
theorem ZfW{l:List Dm}{i:Nat}(h:i<l.length):Zu l i∈l:=by
 have e:Zu l i=l[i]:=by simp [Zu,List.getD,h]
 rw [e]
 exact List.getElem_mem h
theorem Zis{base:Nat}{w:World}{g c g8 c8:Nat}{ds:List Dm}{p:Dm->Bool}(h:ZbT base w g c ds)(ho:w.ownsRow base 161 2 (.slice (some ⟨g8,0,none⟩) (ds.filter p).length c8) (ds.filter p).length (ZG (ds.filter p)))(hg:∀i,i<ds.length->(Zu ds i).2.1≠g8):ZbT base w g8 c8 (ds.filter p):=by
 have k:∀i,i<(ds.filter p).length->∃j,j<ds.length/\Zu (ds.filter p) i=Zu ds j:=fun i f=>by
  have n:=(List.mem_filter.1 (ZfW f)).1
  obtain⟨j,d,e⟩:=List.getElem_of_mem n
  exact⟨j,d,by rw [<-e];simp [Zu,List.getD,d]⟩
 have m:ds.Pairwise (fun a b=>a.2.1≠b.2.1):=by
  refine List.pairwise_iff_getElem.2 (fun i j f d o=>?_)
  have:=h.apart i j f d (by omega)
  simpa [Zu,List.getD,f,d] using this
 have l:=List.pairwise_iff_getElem.1 (m.filter p)
 refine⟨ho,fun i f=>?_,fun i f=>?_,fun i j f d r=>?_⟩
 · obtain⟨j,d,e⟩:=k i f
   rw [e];exact h.rows j d
 · obtain⟨j,d,e⟩:=k i f
   rw [e];exact hg j d
 · have t:Zu (ds.filter p) i=(ds.filter p)[i]:=by simp [Zu,List.getD,f]
   have s:Zu (ds.filter p) j=(ds.filter p)[j]:=by simp [Zu,List.getD,d]
   rw [t,s]
   rcases Nat.lt_or_ge i j with e | e
   · exact l i j f d e
   · exact fun q=>l j i d f (by omega) q.symm
theorem iGone(am aw:Option Addr)(cm cw:Nat)(wd:Int)(ms:List Mk)(d:Int)(ts:List Wb)(nx id:Int)(w:World)(hm:Zo w am ms)(hv:Zp true w aw ts)(hsm:Z0 ms ts)(hst:stB wd ms d ts nx=true)(hmb:Zt ms=true)(hok:Zap d ts=true):
 Calls Tryz.prog 88 #[.agg #[.int .i64 wd,.slice am ms.length cm,.int .i64 d,.slice aw ts.length cw,.int .i64 nx],.int .i64 id] w fun e w'=>∃x,e=.returned (.tuple #[x,.bool (decide (0<=ZC ms id))])/\StO true (Btw w.heap.size w'.heap.size) w' x wd (Zaa ms id) d ts nx/\Below w.heap.size w w':=by
 obtain⟨W1,I⟩:∃W,w.alloc (.cells #[.int .i64 wd,.slice am ms.length cm,.int .i64 d,.slice aw ts.length cw,.int .i64 nx] 41)=W:=⟨_,rfl⟩
 have ay:=balZ I
 have k:ZbA true W1 w.heap.size am aw cm cw wd ms d ts nx:=by rw [<-I];exact ZbA.box hm hv
 obtain⟨W2,D⟩:∃W,W1.alloc (.cells #[.int .i64 id] 2)=W:=⟨_,rfl⟩
 have aa:=balZ D
 obtain⟨W,hW⟩:∃W,W2.alloc (.cells #[.int .i64 0,.slice none 0 0,.int .i64 0,.slice none 0 0,.int .i64 0] 41)=W:=⟨_,rfl⟩
 have Y:=balZ hW
 have s1:=salZ I
 have s2:W2.heap.size=w.heap.size+1+1:=by rw [<-D];simp [s1]
 have s3:W.heap.size=w.heap.size+1+1+1:=by rw [<-hW];simp [s2]
 have TX:W.cell? ⟨w.heap.size+1,0,none⟩=some (.int .i64 id):=by
  have:W2.cell? ⟨w.heap.size+1,0,none⟩=some (.int .i64 id):=by rw [<-D,<-s1];simp
  exact (Y.cell (p:=⟨w.heap.size+1,0,none⟩) (by show w.heap.size+1<_;omega)).trans this
 have TR:=nal2Z hW s2
 have J:=(k.below aa).below Y
 have HB:=Za (Zb (Zb ay aa) Y)
 have HI:=Za J
 have bA:=Za TR
 have bs:=Za TX
 have bk:=Za s3
 have HC:=Za (Zfs am aw cm cw wd ms d ts nx W J.mv J.wv hsm)
 rw [hst] at HC
 have ap:=Za (fun (o:World) (L:Below W.heap.size W o)=>Zet true am aw cm cw wd ms d ts nx o (J.below L).mv (J.below L).wv hmb hok hsm)
 have a6:=Za hmb
 have k0:=J.c0
 have k1:=J.c1
 have k2:=J.c2
 have k3:=J.c3
 have k4:=J.c4
 have aT:Hid _:=aw3Z I D hW
 clear hm hv ay k aa Y TX TR J s1 s2 s3 hW I D hok hmb hsm hst
 go_enter Tryz.func88,Tryz.ntmps88
 go_upto_region 1 with fail
 rw [aT.out]
 clear aT
 go_wp2_with fail
 refine HC.out.mono ?_
 rintro e w1 ⟨rfl,L1⟩
 clear k0 k1 k2 k3 k4
 have k:=HI.out.below L1
 have k0:=k.c0
 have k1:=k.c1
 have k2:=k.c2
 have k3:=k.c3
 have k4:=k.c4
 have au:=Za (ap.out w1 L1)
 have az:=Za L1
 clear k L1
 go_wp2_with fail
 refine au.out.mono ?_
 rintro e c ⟨g,vt,rfl,⟨G,m,lo,up,F,H,a0,hF,bg⟩,L2⟩
 clear k0 k1 k2 k3 k4
 obtain⟨T,U,rfl,-,-⟩:=a0.view
 obtain⟨w3,N⟩:∃w3,c.alloc (.cells #[.int .i64 wd,.slice (some ⟨g,0,none⟩) ms.length ms.length,.int .i64 d,.slice T ts.length U,.int .i64 nx] 41)=w3:=⟨_,rfl⟩
 have L3:=balZ N
 have R:=salZ N
 have t3:=nalZ N
 have aA:=ZF a6.out
 have a8:=(H.next L3).own (by unfold maxLen;omega)
 have a9:=Za5 ms G m
 have aH:=ZbB ms G m
 have P:Hid (Below W.heap.size W w3):=Zb (Zb az.out L2) L3
 have bP:=az.out.size
 have ck:=bk.out
 have Q:=L2.size
 have O:=Za (ZoW g ms.length (w.heap.size+1) (ZaK ms G m) id w3 (by have:=H.blk.lt;omega) (fun i y=>a8.cells i y) (by omega) (by omega) ((P.out.cell (p:=⟨w.heap.size+1,0,none⟩) (by show w.heap.size+1<_;omega)).trans bs.out))
 rw [a9] at O
 have aU:Hid (((ZaK ms G m).filter (ZaD id)).length=(Zaa ms id).length/\Zs ((ZaK ms G m).filter (ZaD id))=Zaa ms id):=by
  have h:=ZhB (ZaK ms G m) id
  rw [aH] at h
  exact⟨by rw [<-h,ZI],h⟩
 rw [aU.out.1] at O
 have aO:=Za a8
 have bm:=Za (a0.next L3)
 have bC:Hid ((∀b,F b->w1.heap.size<=b/\up<=b)/\∀i,i<ms.length->lo<=G i/\G i<up):=⟨hF,fun i y=>H.within i y⟩
 have bd:Hid (up<=c.heap.size):=H.top
 have a3:Hid (∀b,F b->b<c.heap.size):=fun b f=>a0.bnd b f
 have bw:=Za a9
 have b5:=Za N
 have bf:=Za t3
 have an:=Za R
 have ab:=Za Q
 obtain⟨j0,j1,j2,j3,j4,jf,bt⟩:=Zk t3
 have aI:=jf 1
 clear H a0 hF bg a8 a9 aH L2 L3 t3 N R au ap jf Q aA
 go_upto_region 4 with fail
 rw [b5.out]
 go_wp2_with fail
 refine O.out.mono ?_
 rintro e Z ⟨r,A,rfl,hrow,L4⟩
 have q:=Za hrow
 have B:=Za L4
 have t4:=(L4.block _ bt).trans bf.out
 obtain⟨j0,j1,j2,j3,j4,jf,bG⟩:=Zk t4
 have aI:=jf 1
 have t5:(Z.setCell ⟨c.heap.size,1,none⟩ (.slice (some ⟨r,0,none⟩) (Zaa ms id).length A)).heap[c.heap.size]? =_:=ZgD t4
 obtain⟨l,z⟩:∃l,Z.setCell ⟨c.heap.size,1,none⟩ (.slice (some ⟨r,0,none⟩) (Zaa ms id).length A)=l:=⟨_,rfl⟩
 rw [z] at t5
 have C:∀b,b≠c.heap.size->l.heap[b]? =Z.heap[b]? :=fun b f=>by rw [<-z];exact Below.heap_setCell Z ⟨c.heap.size,1,none⟩ _ b (fun e=>f e)
 have z5:l.heap.size=Z.heap.size:=by rw [<-z];simp [World.setCell]
 have bn:=Za t5
 have ar:=(HI.out.below P.out).below L4
 have bB:Hid (l.heap[w.heap.size]? =Z.heap[w.heap.size]?):=C _ (by have:=ab.out;omega)
 have aV:l.cell? ⟨w.heap.size,1,none⟩=some (.slice am ms.length cm):=(World.cell?_of_block (a:=⟨w.heap.size,1,none⟩) bB.out).trans ar.c1
 have X:=Za (And.intro C z5)
 have ak:=Za z
 have bz:=Za aV
 clear hrow L4 t4 jf t5 C z5 ar z aV O
 go_upto_region 5 with fail
 rw [ak.out]
 clear j0 j1 j2 j3 j4 aI
 obtain⟨i0,i1,i2,i3,i4,-,ca⟩:=Zk bn.out
 have b3:Hid (∀o:World,o.heap[c.heap.size]? =l.heap[c.heap.size]? ->o.heap[w.heap.size]? =l.heap[w.heap.size]? ->(o.cell? ⟨c.heap.size,0,none⟩=some (.int .i64 wd)/\o.cell? ⟨c.heap.size,1,none⟩=some (.slice (some ⟨r,0,none⟩) (Zaa ms id).length A)/\o.cell? ⟨c.heap.size,2,none⟩=some (.int .i64 d)/\o.cell? ⟨c.heap.size,3,none⟩=some (.slice T ts.length U)/\o.cell? ⟨c.heap.size,4,none⟩=some (.int .i64 nx))/\o.cell? ⟨w.heap.size,1,none⟩=some (.slice am ms.length cm)):=fun o t h2=>⟨⟨(World.cell?_of_block (a:=⟨c.heap.size,0,none⟩) t).trans i0,(World.cell?_of_block (a:=⟨c.heap.size,1,none⟩) t).trans i1,(World.cell?_of_block (a:=⟨c.heap.size,2,none⟩) t).trans i2,(World.cell?_of_block (a:=⟨c.heap.size,3,none⟩) t).trans i3,(World.cell?_of_block (a:=⟨c.heap.size,4,none⟩) t).trans i4⟩,(World.cell?_of_block (a:=⟨w.heap.size,1,none⟩) h2).trans bz.out⟩
 clear i0 i1 i2 i3 i4
 refine Zl (S:=fun o=>o.heap[c.heap.size]? =l.heap[c.heap.size]? /\o.heap[w.heap.size]? =l.heap[w.heap.size]?) (fuel:=2) [0,1,2,3,4,5,6,7] (by kernel_rfl) (by kernel_rfl) (by kernel_rfl) (by kernel_rfl) ⟨rfl,rfl⟩ (fun _=>?_)
 iterate 8 (refine⟨_,rfl,?_⟩;apply Exists.intro;refine⟨Or.inl ⟨by rfl,fun w' aD=>?_⟩,?_⟩;(focus (obtain⟨⟨e1,e2,e3,e4,e5⟩,e6⟩:=b3.out w' aD.1 aD.2;go_simp<;>with_reducible rfl));simp only [Act.put,tkgZ])
 obtain⟨V,hV⟩:∃V,l.drew=V:=⟨_,rfl⟩
 have a1:V.heap=l.heap:=by rw [<-hV];rfl
 have aW:Below l.heap.size l V:=by rw [<-hV];exact (Below.refl _ _).drew
 rw [hV]
 clear hV
 have ad:V.heap[w.heap.size+1+1]? =some (.cells #[.int .i64 0,.slice none 0 0,.int .i64 0,.slice none 0 0,.int .i64 0] 41):=by
  rw [a1]
  have Q:=ab.out
  have R:=an.out
  exact (X.out.1 _ (by omega)).trans ((B.out.block _ (by omega)).trans ((P.out.block _ (by omega)).trans bA.out))
 obtain⟨r0,r1,r2,r3,r4,rf,cl⟩:=Zk ad
 have bq:=rf 0
 have bh:=rf 1
 have b8:=rf 2
 have bv:=rf 3
 have bp:=rf 4
 have t6:_=some (Obj.cells #[.int .i64 wd,.slice (some ⟨r,0,none⟩) (Zaa ms id).length A,.int .i64 d,.slice T ts.length U,.int .i64 nx] 41):=ZaG ad
 obtain⟨q0,q1,q2,q3,q4,-,-⟩:=Zk t6
 refine Zc 8 (by kernel_rfl) rfl (fun K hK=>?_)
 go_simp
 obtain⟨n,s⟩:∃n,((((V.setCell ⟨w.heap.size+1+1,0,none⟩ (.int .i64 wd)).setCell ⟨w.heap.size+1+1,1,none⟩ (.slice (some ⟨r,0,none⟩) (Zaa ms id).length A)).setCell ⟨w.heap.size+1+1,2,none⟩ (.int .i64 d)).setCell ⟨w.heap.size+1+1,3,none⟩ (.slice T ts.length U)).setCell ⟨w.heap.size+1+1,4,none⟩ (.int .i64 nx)=n:=⟨_,rfl⟩
 have far:∀b,b≠w.heap.size+1+1->n.heap[b]? =l.heap[b]? :=fun b f=>by rw [<-s,<-a1];exact ZaB f
 have b2:n.heap.size=l.heap.size:=by rw [<-s,<-a1];simp [World.setCell]
 have Q:=ab.out
 have R:=an.out
 have ci:=B.out.size
 have cf:=X.out.2
 have L5:Below w.heap.size w l:=by
  have h:=(HB.out.trans (Below.mono P.out (by omega))).trans (Below.mono B.out (by omega))
  rw [<-ak.out]
  exact h.setCell (by show w.heap.size<=c.heap.size;omega) _
 have BZ:Below w.heap.size w n:=by
  have ho:w.heap.size<=w.heap.size+1+1:=by omega
  have b7:Below w.heap.size w V:=L5.trans (Below.mono aW (by omega))
  rw [<-s];exact (((((b7.setCell (p:=⟨w.heap.size+1+1,0,none⟩) ho _).setCell (p:=⟨w.heap.size+1+1,1,none⟩) ho _).setCell (p:=⟨w.heap.size+1+1,2,none⟩) ho _).setCell (p:=⟨w.heap.size+1+1,3,none⟩) ho _).setCell (p:=⟨w.heap.size+1+1,4,none⟩) ho _)
 have bx:=World.ownsRow.lt q.out r rfl
 have hst:StO true (Btw w.heap.size n.heap.size) n (.agg #[.int .i64 wd,.slice (some ⟨r,0,none⟩) (Zaa ms id).length A,.int .i64 d,.slice T ts.length U,.int .i64 nx]) wd (Zaa ms id) d ts nx:=by
  have M:=bC.out
  have c7:=bd.out
  have u:=aU.out
  have aF:ZbT w1.heap.size Z g ms.length (ZaK ms G m):=Zcq aO.out (Sta.below B.out (fun b f=>(Za6 aO.out b f).2))
  have E:∀i,i<(ZaK ms G m).length->(Zu (ZaK ms G m) i).2.1<up/\lo<=(Zu (ZaK ms G m) i).2.1:=fun i y=>by
   rw [bw.out] at y
   rw [ZbJ y]
   exact⟨(M.2 i y).2,(M.2 i y).1⟩
  have a4:Z.ownsRow w1.heap.size 161 2 (.slice (some ⟨r,0,none⟩) ((ZaK ms G m).filter (ZaD id)).length A) ((ZaK ms G m).filter (ZaD id)).length (ZG ((ZaK ms G m).filter (ZaD id))):=by
   rw [u.1]
   exact⟨q.out.1,q.out.2.imp (fun h=>h) fun ⟨g',cap,ao,t,h2,h3⟩=>⟨g',cap,ao,t,Nat.le_trans (by omega) h2,h3⟩⟩
  have aP:=Zis aF a4 (fun i y e=>by have:=E i y;omega)
  have aS:∀b,FtM r ((ZaK ms G m).filter (ZaD id)) b->(b=r\/(lo<=b/\b<up)):=fun b f=>by
   rcases f with rfl | ⟨i,y,rfl⟩
   · exact Or.inl rfl
   · have hm:=(List.mem_filter.1 (ZfW y)).1
     obtain⟨j,hj,e⟩:=List.getElem_of_mem hm
     have e2:Zu ((ZaK ms G m).filter (ZaD id)) i=Zu (ZaK ms G m) j:=by rw [<-e];simp [Zu,List.getD,hj]
     rw [e2]
     exact Or.inr ⟨(E j hj).2,(E j hj).1⟩
  have a2:∀b,FtM r ((ZaK ms G m).filter (ZaD id)) b->w1.heap.size<=b/\b<Z.heap.size:=fun b f=>Za6 aP b f
  have aB:ZbT w1.heap.size n r A ((ZaK ms G m).filter (ZaD id)):=Zcq aP ⟨by omega,fun b f=>by
   have t:=a2 b f
   have h2:=aS b f
   exact (far b (by omega)).trans (X.out.1 b (by omega))⟩
  have aC:∀x∈Zaa ms id,x.2.length<=4:=fun x hx=>by
   have bu:=(List.mem_filter.1 hx).1
   obtain⟨i,aL,rfl⟩:=List.getElem_of_mem bu
   have:=((ZZ _ _).1 (Zam a6.out aL)).2.2.1
   have h4:=(ZaP this).2
   simpa [mat,List.getD,aL] using h4
  have aA:=ZF a6.out
  have bK:=ZhC ms id
  have aj:=Zc7 aB (by rw [u.1];omega) (by rw [u.2];exact aC)
  rw [u.1,u.2] at aj
  have bj:TsO true F n (.slice T ts.length U) ts:=bm.out.sm ⟨by omega,fun b f=>by
   have t:=M.1 b f
   have h2:=a3.out b f
   exact (far b (by omega)).trans ((X.out.1 b (by omega)).trans (B.out.block b (by omega)))⟩
  have aK:(Zaa ms id).length<=A:=by
   obtain⟨-,⟨x,-⟩ | ⟨g',cap,ao,x,-,-,cr,-⟩⟩:=q.out
   · cases x
   · injection x with x1 x2 x3;omega
  refine StO.of wd d nx (fun _=>aj) (Nat.le_trans (ZcJ _ 60 4 (by omega) aC) (by omega)) aK (fun w' hs=>?_) bj (fun b f=>f.2) (fun b f=>?_) (fun b f=>?_) (fun b f aq=>?_)
  · have:=(Zcq aB hs).view
    rw [u.2] at this
    exact this
  · have:=a2 b f
    exact⟨by omega,by omega⟩
  · have t:=M.1 b f
    have h2:=a3.out b f
    exact⟨by omega,by omega⟩
  · have t:=aS b f
    have h2:=M.1 b aq
    have h3:=a3.out b aq
    rcases t with e | t
    · omega
    · omega
 have aJ:=Za (And.intro hst BZ)
 have ah:Hid (decide (((Zaa ms id).length:Int)<(ms.length:Int))=decide (0<=ZC ms id)):=by
  show _=_
  rw [<-Zkz]
  simp
 have HQ:Hid (n.cell? ⟨w.heap.size+1+1,0,none⟩=some (.int .i64 wd)/\n.cell? ⟨w.heap.size+1+1,1,none⟩=some (.slice (some ⟨r,0,none⟩) (Zaa ms id).length A)/\n.cell? ⟨w.heap.size+1+1,2,none⟩=some (.int .i64 d)/\n.cell? ⟨w.heap.size+1+1,3,none⟩=some (.slice T ts.length U)/\n.cell? ⟨w.heap.size+1+1,4,none⟩=some (.int .i64 nx)):=by
  rw [s] at q0 q1 q2 q3 q4
  exact⟨q0,q1,q2,q3,q4⟩
 have av:Hid (n.heap[c.heap.size]? =l.heap[c.heap.size]? /\n.heap[w.heap.size]? =l.heap[w.heap.size]?):=⟨far _ (by omega),far _ (by omega)⟩
 rw [s]
 clear hst BZ far b2 s ad t6 rf bq bh b8 bv bp r0 r1 r2 r3 r4 q0 q1 q2 q3 q4 a1 aW L5 bx
 refine hK.out _ _ av.out (fun _=>?_)
 clear hK K
 refine Zc 9 (by kernel_rfl) rfl (fun K hK=>?_)
 go_simp
 refine hK.out _ _ av.out (fun _=>?_)
 clear hK K
 refine wpAnyH_done (by kernel_rfl) ?_ _
 refine NoPanic.normal ?_
 try simp only [Exit.then]
 obtain⟨q0,q1,q2,q3,q4⟩:=HQ.out
 go_wp2_with fail
 refine bodyPost_ret (v:=.tuple #[.agg #[.int .i64 wd,.slice (some ⟨r,0,none⟩) (Zaa ms id).length A,.int .i64 d,.slice T ts.length U,.int .i64 nx],.bool (decide (((Zaa ms id).length:Int)<(ms.length:Int)))]) (by simp [results,Tryz.results88,go_sem,q0,q1,q2,q3,q4]) rfl ?_
 rw [ah.out]
 exact⟨_,rfl,aJ.out.1,aJ.out.2⟩
theorem ZR{base:Nat}{w w':World}{g c:Nat}{ss:List Zv}(h:Zq base w g c ss)(e:w'.heap[g]? =w.heap[g]?):Zq base w' g c ss:=by
 obtain⟨d,j | ⟨i,f,b,a,l,k,m⟩⟩:=h
 · exact⟨d,Or.inl j⟩
 · refine⟨d,Or.inr ⟨i,f,b,a,l,?_,m⟩⟩
   injection a with a e2 e3
   injection a with a
   injection a with a
   rw [<-a,e,a]
   exact k
theorem Zom{base:Nat}{w:World}{g c:Nat}{ss:List Zv}(h:Zq base w g c ss)(hn:ss.length<=1048576):Ow 56 58 (fun q=>q=g) w (.slice (some ⟨g,0,none⟩) ss.length c) (3*ss.length):=by
 refine⟨fun b d=>by rw [d];exact h.lt.2,fun r o f i s=>?_⟩
 refine (Zhz base g c f ss r (ZR h (o.2 g rfl)) (by omega) i (by omega)).mono ?_
 rintro e t ⟨rfl,k,a⟩
 refine⟨ZK (by omega),⟨a.os,a.tape,a.output,a.size,fun b d l=>a.block b d (fun e=>by injection e with e;exact l e)⟩,fun W p=>?_⟩
 have j:=(ZR k (p.2 g rfl)).view
 exact (ZlI (some ⟨g,0,none⟩) c ss.length f W j (by omega) i (by omega)).mono (fun e u ⟨n,m⟩=>⟨by rw [n];exact ZK (by omega),by rw [m];exact Below.refl _ _⟩)
theorem Zm1(cap:Nat)(k:Int)(w:World):Calls Tryz.prog 56 #[.slice none 0 cap,.int .i64 k] w fun e w'=>e=.returned (.int .i64 k)/\w'=w:=by
 go_enter Tryz.func56,Tryz.ntmps56
 go_wp2
 refine wp_loop_rounds 1 ?_
 rw [rounds_succ]
 go_wp2
 go_ret
 exact⟨rfl,rfl⟩
theorem Zm2(cap:Nat)(k:Int)(w:World):Calls Tryz.prog 58 #[.slice none 0 cap,.int .i64 k] w fun e w'=>e=.returned (.int .i64 k)/\w'=w:=by
 go_enter Tryz.func58,Tryz.ntmps58
 go_wp2
 refine wp_loop_rounds 1 ?_
 rw [rounds_succ]
 go_wp2
 go_ret
 exact⟨rfl,rfl⟩
theorem Zm3(cap:Nat)(w:World):Ow 56 58 (fun _=>False) w (.slice none 0 cap) 0:=
 ⟨fun _ h=>h.elim,fun w' _ k0 _ _=>(Zm1 cap k0 w').mono (by
  rintro e w2 ⟨rfl,rfl⟩
  exact⟨by simp,Cgd.refl _ _,fun W _=>(Zm2 cap k0 W).mono (by rintro e W' ⟨rfl,rfl⟩;exact⟨by simp,Below.refl _ _⟩)⟩)⟩
structure DkO(o:Bool)(S:Nat->Prop)(w:World)(v:Value)(wd:Int)(ms:List Mk)(d:Int)(ts:List Wb)(nx:Int)(ss:List Zv):Prop where
 bnd:∀b,S b->b<w.heap.size
 ow:o=true->∃N,N<=600000/\Ow 15 17 S w v N
 view:∃am cm aw cw aq cq,v=.agg #[.int .i64 wd,.slice am ms.length cm,.int .i64 d,.slice aw ts.length cw,.int .i64 nx,.slice aq ss.length cq]/\ms.length<=cm/\ts.length<=cw/\ss.length<=cq/\∀w',Sta S w w'->Zo w' am ms/\Zp true w' aw ts/\Zm w' aq ss
theorem DkO.sm{o:Bool}{S:Nat->Prop}{w w':World}{v:Value}{wd:Int}{ms:List Mk}{d:Int}{ts:List Wb}{nx:Int}{ss:List Zv}(h:DkO o S w v wd ms d ts nx ss)(k:Sta S w w'):DkO o S w' v wd ms d ts nx ss:=by
 obtain⟨t,g,m,j,c,q,e,c1,c2,r,f⟩:=h.view
 exact⟨fun b a=>Nat.lt_of_lt_of_le (h.bnd b a) k.1,fun n=>by obtain⟨N,p,i⟩:=h.ow n;exact⟨N,p,i.sm k⟩,⟨t,g,m,j,c,q,e,c1,c2,r,fun l s=>f l (k.trans s)⟩⟩
theorem Zon{S F G:Nat->Prop}{w:World}{vm vt vs:Value}{N K:Nat}(wd d nx:Int)(hm:Ow 55 57 F w (.agg #[.int .i64 wd,vm,.int .i64 d,vt,.int .i64 nx]) N)(ht:Ow 56 58 G w vs K)(hS:∀b,S b->b<w.heap.size)(hF:∀b,F b->S b)(hG:∀b,G b->S b)(hd:∀b,F b->¬G b):
 Ow 15 17 S w (.agg #[.int .i64 wd,vm,.int .i64 d,vt,.int .i64 nx,vs]) (N+K):=by
 refine⟨hS,fun g hs k0 h0 h1=>?_⟩
 obtain⟨W,n⟩:∃W,g.alloc (.cells #[.int .i64 wd,vm,.int .i64 d,vt,.int .i64 nx,vs] 44)=W:=⟨_,rfl⟩
 have O:=balZ n
 have M:=altZ n
 have t:W.cell? ⟨g.heap.size,0,none⟩=some (.int .i64 wd):=by rw [<-n];simp
 have U:W.cell? ⟨g.heap.size,1,none⟩=some vm:=by rw [<-n];simp
 have V:W.cell? ⟨g.heap.size,2,none⟩=some (.int .i64 d):=by rw [<-n];simp
 have X:W.cell? ⟨g.heap.size,3,none⟩=some vt:=by rw [<-n];simp
 have k4:W.cell? ⟨g.heap.size,4,none⟩=some (.int .i64 nx):=by rw [<-n];simp
 have s:W.cell? ⟨g.heap.size,5,none⟩=some vs:=by rw [<-n];simp
 have o:∀b,S b->b<g.heap.size:=fun b k=>Nat.lt_of_lt_of_le (hS b k) hs.1
 have u:=hs.trans (Sta.below O o)
 have HM:=Za (hm.act W (u.mono hF) k0 h0 (by omega))
 have HT:=Za (ht.sm (u.mono hG))
 have HB:=Za O
 have i:=Za o
 have HK:=Za s
 have c:=Za (And.intro hF (And.intro hG hd))
 clear hs u O o hm ht s hF hG hd hS
 go_enter Tryz.func15,Tryz.ntmps15
 go_wp2_with fail
 refine HM.out.mono ?_
 rintro e P ⟨rfl,c1,d1⟩
 have C:¬F g.heap.size:=fun h=>by have:=i.out _ (c.out.1 _ h);omega
 have eb:=c1.2.2.2.2 g.heap.size M C
 have J:=(World.cell?_of_block (a:=⟨g.heap.size,5,none⟩) eb).trans HK.out
 have D:Sta G W P:=c1.sm (fun b k=>by have:=i.out b (c.out.2.1 b k);omega) (fun b k hf=>c.out.2.2 b hf k)
 have y:=Za (HT.out.act P D (k0+N) (by omega) (by omega))
 have H:=Za (And.intro c1 d1)
 clear c1 d1 C eb D HM HT n t U V X k4
 go_wp2_with fail
 refine y.out.mono ?_
 rintro e w2 ⟨rfl,c2,d2⟩
 have A:=Za (And.intro c2 d2)
 clear c2 d2 y J
 go_wp2_with fail
 go_ret
 have Y:=H.out.1.2.2.2.1
 have Q:=A.out.1.2.2.2.1
 refine⟨ZK (by omega),(Cgd.of HB.out).trans ((H.out.1.mono c.out.1).trans (A.out.1.mono c.out.2.1)),fun l q=>?_⟩
 obtain⟨j,f⟩:∃W,l.alloc (.cells #[.int .i64 wd,vm,.int .i64 d,vt,.int .i64 nx,vs] 44)=W:=⟨_,rfl⟩
 have r:=balZ f
 have B:=altZ f
 have t:j.cell? ⟨l.heap.size,0,none⟩=some (.int .i64 wd):=by rw [<-f];simp
 have U:j.cell? ⟨l.heap.size,1,none⟩=some vm:=by rw [<-f];simp
 have V:j.cell? ⟨l.heap.size,2,none⟩=some (.int .i64 d):=by rw [<-f];simp
 have X:j.cell? ⟨l.heap.size,3,none⟩=some vt:=by rw [<-f];simp
 have k4:j.cell? ⟨l.heap.size,4,none⟩=some (.int .i64 nx):=by rw [<-f];simp
 have s:j.cell? ⟨l.heap.size,5,none⟩=some vs:=by rw [<-f];simp
 have m:Sta S w2 j:=q.trans (Sta.below r (fun b k=>by have:=i.out b k;have:=q.1;omega))
 have v:Sta F P j:=(A.out.1.sm (T:=F) (fun b k=>by have:=i.out b (c.out.1 b k);omega) (fun b k hg=>c.out.2.2 b k hg)).trans (m.mono c.out.1)
 have HE:=Za (H.out.2 j v)
 have x:=Za (fun W4 (L:Below j.heap.size j W4)=>A.out.2 W4 ((m.mono c.out.2.1).trans (Sta.below L (fun b k=>by have:=i.out b (c.out.2.1 b k);have:=m.1;omega))))
 have I:=Za r
 have z:=Za s
 clear H A q r i s m v c HK Y Q
 go_enter Tryz.func17,Tryz.ntmps17
 go_wp2_with fail
 refine HE.out.mono ?_
 rintro e w4 ⟨rfl,E⟩
 have s:=(E.cell (p:=⟨l.heap.size,5,none⟩) B).trans z.out
 have R:=Za (x.out w4 E)
 have HL:=Za (Zb I.out E)
 clear E f t U V X k4 HE x z
 go_wp2_with fail
 refine R.out.mono ?_
 rintro e w5 ⟨rfl,L5⟩
 have Z:=Za (Zb HL.out L5)
 clear L5 s
 go_wp2_with fail
 go_ret
 exact⟨ZK (by omega),Z.out⟩
theorem DkO.of{o:Bool}{S F G:Nat->Prop}{w:World}{am aw aq:Option Addr}{cm cw cq K:Nat}{wd:Int}{ms:List Mk}{d:Int}{ts:List Wb}{nx:Int}{ss:List Zv}(hst:StO o F w (.agg #[.int .i64 wd,.slice am ms.length cm,.int .i64 d,.slice aw ts.length cw,.int .i64 nx]) wd ms d ts nx)(hs:o=true->Ow 56 58 G w (.slice aq ss.length cq) K)(hK:K<=100000)(hc:ss.length<=cq)(hv:∀w',Sta G w w'->Zm w' aq ss)(hS:∀b,S b->b<w.heap.size)(hF:∀b,F b->S b)(hG:∀b,G b->S b)(hd:∀b,F b->¬G b):
 DkO o S w (.agg #[.int .i64 wd,.slice am ms.length cm,.int .i64 d,.slice aw ts.length cw,.int .i64 nx,.slice aq ss.length cq]) wd ms d ts nx ss:=by
 obtain⟨i,h,g,j,e,c1,c2,a⟩:=hst.view
 simp only [Value.agg.injEq,Array.mk.injEq,List.cons.injEq,Value.slice.injEq,and_true,true_and] at e
 obtain⟨⟨rfl,rfl⟩,rfl,rfl⟩:=e
 exact⟨hS,fun c=>by obtain⟨N,l,f⟩:=hst.ow c;exact⟨N+K,by omega,Zon wd d nx f (hs c) hS hF hG hd⟩,⟨_,_,_,_,_,_,rfl,c1,c2,hc,fun w' k=>⟨(a w' (k.mono hF)).1,(a w' (k.mono hF)).2,hv w' (k.mono hG)⟩⟩⟩
end Go.Proofs.YtilkaeclgmcolaaGreat
