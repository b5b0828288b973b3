import Derived.Test.YtilkaeclgmcolaaGreatHSpecZz
import Derived.Test.YtilkaeclgmcolaaGreatWithZz
import Derived.Test.YtilkaeclgmcolaaGreatMathZz
import Derived.RegionTactic
import Derived.ChangeAlike
import Derived.BigRegion
set_option maxRecDepth 100000
set_option maxHeartbeats 4000000
namespace Go.Proofs.YtilkaeclgmcolaaGreat
open Go Go.RowKit
theorem Zki(base g c i j:Nat)(l:List Ht)(w:World)(hr:ZT base w g c l)(hi:i<l.length)(hj:j<l.length):
 Calls Tryz.prog 299 #[.slice (some ⟨g,0,none⟩) l.length c,.int .i64 i,.int .i64 j] w fun e w'=>e=.returned (.tuple #[])/\ZT base w' g c (ZbP l i j)/\w.grownBy w' (some g):=by
 obtain⟨m,h⟩:=hr.seg i hi
 obtain⟨n,k⟩:=hr.seg j hj
 rw [Nat.zero_add] at m h n k
 have o:=World.ownsRow.frozenAt hr (i*2)
 have q:=World.ownsRow.frozenAt hr (i*2+1)
 have s:=World.ownsRow.frozenAt hr (j*2)
 have r:=World.ownsRow.frozenAt hr (j*2+1)
 have b:=hr.store i (Zx l j)
 obtain⟨d,f⟩:=b.seg j (by simpa using hj)
 rw [Nat.zero_add] at d f
 have u:=Za (b.store j (Zx l i))
 have a:Hid (w.grownBy ((((w.setCell ⟨g,i*2,none⟩ (.int .i64 (Zx l j).1)).setCell ⟨g,i*2+1,none⟩ (.int .i64 (Zx l j).2)).setCell ⟨g,j*2,none⟩ (.int .i64 (Zx l i).1)).setCell ⟨g,j*2+1,none⟩ (.int .i64 (Zx l i).2)) (some g)):=Zal (Zal (Zal (Zal (Zbv w _))))
 have p:(0:Int)<=(i:Int):=by omega
 have x:(i:Int)<(l.length:Int):=by omega
 have t:(0:Int)<=(j:Int):=by omega
 have v:(j:Int)<(l.length:Int):=by omega
 clear b hr
 go_enter Tryz.func299,Tryz.ntmps299
 go_wp2
 go_region
 go_end0
 exact⟨rfl,u.out,⟨a.out.os,a.out.tape,a.out.output,a.out.size,a.out.block⟩⟩
theorem iLen(ao:Option Addr)(n c:Nat)(w:World):
 Calls Tryz.prog 230 #[.slice ao n c] w fun e w'=>e=.returned (.int .i64 n)/\w'=w:=by
 go_enter Tryz.func230,Tryz.ntmps230
 go_wp2
 go_ret
 exact⟨rfl,rfl⟩
def HAt(base:Nat)(w:World)(p g c:Nat)(l:List Ht):Prop:=p≠g/\w.heap[p]? =some (.cells #[.slice (some ⟨g,0,none⟩) l.length c] 270 (0,0))/\ZT base w g c l
theorem ZmF{w:World}{p:Nat}{o:Obj}(h:w.heap[p]? =some o):p<w.heap.size:=by
 rcases Nat.lt_or_ge p w.heap.size with h1 | h1
 · exact h1
 · rw [Array.getElem?_eq_none h1] at h;cases h
theorem HAt.cell{base:Nat}{w:World}{p g c:Nat}{l:List Ht}(h:HAt base w p g c l):w.cell? ⟨p,0,none⟩=some (.slice (some ⟨g,0,none⟩) l.length c):=by simp [World.cell?,h.2.1]
theorem HAt.frozen{base:Nat}{w:World}{p g c:Nat}{l:List Ht}(h:HAt base w p g c l):w.frozen? ⟨p,0,none⟩=false:=by simp [World.frozen?,h.2.1]
theorem HAt.lt{base:Nat}{w:World}{p g c:Nat}{l:List Ht}(h:HAt base w p g c l):p<w.heap.size:=ZmF h.2.1
theorem HAt.below{base:Nat}{w w':World}{p g c:Nat}{l:List Ht}(h:HAt base w p g c l)(hw:Below w.heap.size w w'):HAt base w' p g c l:=
 ⟨h.1,(hw.block p h.lt).trans h.2.1,h.2.2.below (Nat.le_refl _) hw⟩
theorem HAt.put{base:Nat}{w w':World}{p g c:Nat}{l l':List Ht}(h:HAt base w p g c l)(hr:ZT base w' g c l')(hl:l'.length=l.length)(hg:w.grownBy w' (some g)):HAt base w' p g c l':=
 ⟨h.1,by rw [hl];exact (hg.block p h.lt (fun e=>h.1 (by injection e))).trans h.2.1,hr⟩
theorem Zn4{base:Nat}{w:World}{g c:Nat}{l:List Ht}(h:ZT base w g c l)(n:Nat):ZT base w g c (l.take n):=by
 obtain⟨p,⟨i,_⟩ | ⟨s,r,a,e,b,m,q,f,j,o⟩⟩:=h
 · cases i
 · injection e with e1 e2 e3
   injection e1 with e1
   injection e1 with e1
   subst e1 e3
   have k:Zn (l.take n)=a.toList.take ((l.take n).length*2):=by
    have d:Zn l=Zn (l.take n)++Zn (l.drop n):=by rw [<-Zak,List.take_append_drop]
    rw [<-Za8,show a.toList.take (Zn (l.take n)).length=(a.toList.take (l.length*2)).take (Zn (l.take n)).length by
     rw [List.take_take,Za8,Nat.min_eq_left];simp;omega,o,d,List.take_left]
   refine⟨Za8 _,Or.inr ⟨g,c,a,rfl,b,m,?_,f,j,k.symm⟩⟩
   simp;omega
theorem ZdB(w:World)(p i q j:Nat)(v:Value)(h:p≠q):(w.setCell ⟨p,i,none⟩ v).cell? ⟨q,j,none⟩=w.cell? ⟨q,j,none⟩:=by
 exact World.cell?_setCell_far w _ _ v h
theorem ZfL{w:World}{p:Nat}{u:Value}{t:TypeId}(h:w.heap[p]? =some (.cells #[u] t (0,0)))(v:Value):(w.setCell ⟨p,0,none⟩ v).heap[p]? =some (.cells #[v] t (0,0)):=by
 unfold World.setCell
 rw [Array.getElem?_modify,if_pos rfl,h]
 rfl
theorem iPop(base p g c n:Nat)(l:List Ht)(w:World)(h:HAt base w p g c l)(hl:l.length=n+1)(hn:n<=1048576):
 Calls Tryz.prog 298 #[.pointer (some ⟨p,0,none⟩)] w fun e w'=>e=.returned (.iface 227 (.agg #[.int .i64 (Zx l n).1,.int .i64 (Zx l n).2]))/\HAt base w' p g c (l.take n)/\w.grownBy w' (some p):=by
 obtain⟨k,j⟩:=h.2.2.seg n (by omega)
 rw [Nat.zero_add] at k j
 have x:=h.cell
 have B:=h.frozen
 have d:=h.2.2.cap
 have D:=Za h
 have C:=Za hl
 rw [hl] at x d
 have E:wrap64 ((n:Int)+1-1)=n:=by unfold wrap64;omega
 have s:=h.lt
 have f:p≠w.heap.size:=by omega
 obtain⟨O,m⟩:∃O,O=Obj.cells #[.int .i64 (Zx l n).1,.int .i64 (Zx l n).2] 227:=⟨_,rfl⟩
 have a:=(Below.refl w.heap.size w).alloc (Nat.le_refl _) O
 have b:=h.below a
 have q:=b.cell
 have y:=b.frozen
 rw [hl] at q
 obtain⟨v,t⟩:∃v:Value,v=.slice (some ⟨g,0,none⟩) n c:=⟨_,rfl⟩
 have A:((w.alloc O).setCell ⟨p,0,none⟩ v).cell? ⟨w.heap.size,0,none⟩=some (.int .i64 (Zx l n).1):=by
  rw [ZdB _ _ _ _ _ _ f,m];simp
 have u:((w.alloc O).setCell ⟨p,0,none⟩ v).cell? ⟨w.heap.size,1,none⟩=some (.int .i64 (Zx l n).2):=by
  rw [ZdB _ _ _ _ _ _ f,m];simp
 have o:Hid (HAt base ((w.alloc O).setCell ⟨p,0,none⟩ v) p g c (l.take n)/\w.grownBy ((w.alloc O).setCell ⟨p,0,none⟩ v) (some p)):=by
  refine⟨⟨h.1,?_,?_⟩,Zal ⟨a.os,a.tape,a.output,a.size,fun i z _=>a.block i z⟩⟩
  · rw [ZfL (b.2.1) v,t,List.length_take,hl,Nat.min_eq_left (by omega)]
  · exact Zn4 (b.2.2.kept (r:=some p) (Zal (Zbv _ _)) (fun e=>h.1 (by injection e with e;exact e.symm))) n
 rw [World.setCell_alloc_past O p 0 v s] at o
 subst m t
 clear h hl b a
 go_enter Tryz.func298,Tryz.ntmps298
 go_wp2
 go_ret
 exact⟨rfl,o.out.1,o.out.2⟩
def Zc8(base:Nat)(w w':World)(p g c:Nat)(l l':List Ht)(n:Nat):Prop:=HAt base w' p g c l'/\w.grownBy w' (some g)/\l'.Perm l/\∀k,n<=k->Zx l' k=Zx l k
theorem Zc8.below{base:Nat}{w w1 w2:World}{p g c n:Nat}{l l':List Ht}(h:Zc8 base w w1 p g c l l' n)(hb:Below w1.heap.size w1 w2):Zc8 base w w2 p g c l l' n:=
 ⟨h.1.below hb,Zc9 h.2.1 ⟨hb.os,hb.tape,hb.output,hb.size,fun i hi _=>hb.block i hi⟩,h.2.2⟩
theorem ZkW(l:List Ht)(i j k:Nat)(hi:i<l.length)(hj:j<l.length)(h1:k≠i)(h2:k≠j):Zx (ZbP l i j) k=Zx l k:=by
 rcases Nat.lt_or_ge k l.length with h | h
 · rw [Zd7 l i j k hi hj h,if_neg h2,if_neg h1]
 · simp [Zx,List.getD,ZbP,h]
theorem Zc8.swap{base:Nat}{w w1 w2:World}{p g c n i j:Nat}{l l':List Ht}(h:Zc8 base w w1 p g c l l' n)(hr:ZT base w2 g c (ZbP l' i j))(hg:w1.grownBy w2 (some g))(hi:i<n)(hj:j<n)(hn:n<=l'.length):Zc8 base w w2 p g c l (ZbP l' i j) n:=
 ⟨h.1.put hr (Zbm _ _ _) hg,Zc9 h.2.1 hg,(ZfM _ _ _ (by omega) (by omega)).trans h.2.2.1,fun k hk=>by rw [ZkW _ _ _ _ (by omega) (by omega) (by omega) (by omega)];exact h.2.2.2 k hk⟩
theorem ZoJ(base p g c s i0 n:Nat)(l:List Ht)(w:World)(h:HAt base w p g c l)(hn:n<=l.length)(hl:l.length<=1048576)(hs:s<=i0)(hi:i0<=n)(hd:ZfN s l n i0):
 Calls Tryz.prog 263 #[.iface 245 (.pointer (some ⟨p,0,none⟩)),.int .i64 i0,.int .i64 n] w fun e w'=>(∃b,e=.returned (.bool b))/\∃l',Zc8 base w w' p g c l l' n/\Zgv s l' n:=by
 go_enter Tryz.func263,Tryz.ntmps263
 go_wp2
 go_loopw [7] (fun M wr=>∃(i:Nat) (l':List Ht),M=.int .i64 i/\s<=i/\i<=n/\Zc8 base w wr p g c l l' n/\ZfN s l' n i) (fun M _=>n-(intOf M).toNat)
 case atStart=>exact⟨i0,l,rfl,hs,hi,⟨h,Zbv _ _,List.Perm.refl _,fun _ _=>rfl⟩,hd⟩
 case round=>
  obtain⟨i,l',rfl,E,V,G,F⟩:=hrel
  have P:=Za G
  have D:=Za F
  have Q:=Za (G.2.2.1.length_eq)
  have u:n<=l'.length:=by rw [Q.out];exact hn
  have W:l'.length<=1048576:=by rw [Q.out];exact hl
  have J:=G.1.cell
  have L:=ZaL ZfO p _ _ _ wr J
  have Z:wrap64 (2*(i:Int))=2*(i:Int):=by unfold wrap64;omega
  have X:wrap64 (2*(i:Int)+1)=2*(i:Int)+1:=by unfold wrap64;omega
  have Y:wrap64 (2*(i:Int)+1+1)=2*(i:Int)+1+1:=by unfold wrap64;omega
  have K:((2*i+1:Nat):Int)=2*(i:Int)+1:=by omega
  have O:((2*i+2:Nat):Int)=2*(i:Int)+1+1:=by omega
  by_cases hlt:2*i+1<n
  · have N:=Za (Zkj g 0 l'.length c (2*i+2) (2*i+1) l' wr G.1.2.2.lt.2 G.1.2.2.seg (Nat.le_refl _))
    rw [K,O] at N
    clear G F K O
    by_cases hr:2*i+2<n
    · have S:¬(2*(i:Int)+1≥(n:Int)):=by omega
      have U:(2*(i:Int)+1+1<(n:Int)):=by omega
      go_wp2_with fail
      refine (N.out (by omega) (by omega)).mono ?_
      rintro e z ⟨rfl,T⟩
      have d:=Za (P.out.below T)
      have A:=ZaL ZfO p _ _ _ z d.out.1.cell
      clear T J L
      rcases ha:Zag (Zx l' (2*i+2)) (Zx l' (2*i+1)) with _ | _
      · have C:Hid (∀c,0<c->c<n->par c=i->leH (Zx l' (2*i+1)) (Zx l' c)):=fun c t B r=>by
         rcases kids c i t r with rfl | rfl
         · exact ZcB _
         · exact (ZaM _ _).1 ha
        have m:=Za (Zkj g 0 l'.length c (2*i+1) i l' z d.out.1.2.2.lt.2 d.out.1.2.2.seg (Nat.le_refl _))
        have f:=Za (fun q H=>Zki base g c i (2*i+1) l' q H)
        rw [show ((2*i+1:Nat):Int)=2*(i:Int)+1 by omega] at m f
        go_wp2_with fail
        refine (m.out (by omega) (by omega)).mono ?_
        rintro e q ⟨rfl,j⟩
        have a:=Za (d.out.below j)
        have v:=ZaL Zd8 p _ _ _ q a.out.1.cell
        clear j A
        rcases hf:Zag (Zx l' (2*i+1)) (Zx l' i) with _ | _
        · go_wp2
          go_ret
          exact⟨⟨_,rfl⟩,l',a.out,ZcO D.out (fun c t B r=>ZcC ((ZaM _ _).1 hf) (C.out c t B r))⟩
        · go_wp2_with fail
          refine (f.out q a.out.1.2.2 (by omega) (by omega)).mono ?_
          rintro e R ⟨rfl,k,o⟩
          have x:=Za (a.out.swap k o (by omega) (by omega) u)
          have y:=Za (ZdO D.out E u (by omega) (by omega) (by unfold par;omega) C.out hf)
          clear k o v
          go_wp2
          go_roundw
          case rel=>exact⟨2*i+1,_,by go_num,by omega,by omega,x.out,y.out⟩
          case measure=>simp [intOf];omega
      · have C:Hid (∀c,0<c->c<n->par c=i->leH (Zx l' (2*i+2)) (Zx l' c)):=fun c t B r=>by
         rcases kids c i t r with rfl | rfl
         · exact ZcP ha
         · exact ZcB _
        have m:=Za (Zkj g 0 l'.length c (2*i+2) i l' z d.out.1.2.2.lt.2 d.out.1.2.2.seg (Nat.le_refl _))
        have f:=Za (fun q H=>Zki base g c i (2*i+2) l' q H)
        rw [show ((2*i+2:Nat):Int)=2*(i:Int)+1+1 by omega] at m f
        go_wp2_with fail
        refine (m.out (by omega) (by omega)).mono ?_
        rintro e q ⟨rfl,j⟩
        have a:=Za (d.out.below j)
        have v:=ZaL Zd8 p _ _ _ q a.out.1.cell
        clear j A
        rcases hf:Zag (Zx l' (2*i+2)) (Zx l' i) with _ | _
        · go_wp2
          go_ret
          exact⟨⟨_,rfl⟩,l',a.out,ZcO D.out (fun c t B r=>ZcC ((ZaM _ _).1 hf) (C.out c t B r))⟩
        · go_wp2_with fail
          refine (f.out q a.out.1.2.2 (by omega) (by omega)).mono ?_
          rintro e R ⟨rfl,k,o⟩
          have x:=Za (a.out.swap k o (by omega) (by omega) u)
          have y:=Za (ZdO D.out E u (by omega) (by omega) (by unfold par;omega) C.out hf)
          clear k o v
          go_wp2
          go_roundw
          case rel=>exact⟨2*i+2,_,by go_num,by omega,by omega,x.out,y.out⟩
          case measure=>simp [intOf];omega
    · have S:¬(2*(i:Int)+1≥(n:Int)):=by omega
      have U:¬(2*(i:Int)+1+1<(n:Int)):=by omega
      obtain⟨z,I⟩:∃z,z=wr:=⟨_,rfl⟩
      have d:Hid (Zc8 base w z p g c l l' n):=by rw [I];exact P
      have A:=ZaL ZfO p _ _ _ z d.out.1.cell
      subst I
      clear J L N
      have C:Hid (∀c,0<c->c<n->par c=i->leH (Zx l' (2*i+1)) (Zx l' c)):=fun c t B r=>by
       rcases kids c i t r with rfl | rfl
       · exact ZcB _
       · omega
      have m:=Za (Zkj g 0 l'.length c (2*i+1) i l' z d.out.1.2.2.lt.2 d.out.1.2.2.seg (Nat.le_refl _))
      have f:=Za (fun q H=>Zki base g c i (2*i+1) l' q H)
      rw [show ((2*i+1:Nat):Int)=2*(i:Int)+1 by omega] at m f
      go_wp2_with fail
      refine (m.out (by omega) (by omega)).mono ?_
      rintro e q ⟨rfl,j⟩
      have a:=Za (d.out.below j)
      have v:=ZaL Zd8 p _ _ _ q a.out.1.cell
      clear j A
      rcases hf:Zag (Zx l' (2*i+1)) (Zx l' i) with _ | _
      · go_wp2
        go_ret
        exact⟨⟨_,rfl⟩,l',a.out,ZcO D.out (fun c t B r=>ZcC ((ZaM _ _).1 hf) (C.out c t B r))⟩
      · go_wp2_with fail
        refine (f.out q a.out.1.2.2 (by omega) (by omega)).mono ?_
        rintro e R ⟨rfl,k,o⟩
        have x:=Za (a.out.swap k o (by omega) (by omega) u)
        have y:=Za (ZdO D.out E u (by omega) (by omega) (by unfold par;omega) C.out hf)
        clear k o v
        go_wp2
        go_roundw
        case rel=>exact⟨2*i+1,_,by go_num,by omega,by omega,x.out,y.out⟩
        case measure=>simp [intOf];omega
  · have S:(2*(i:Int)+1≥(n:Int)):=by omega
    clear G F J L K O
    go_wp2
    go_ret
    exact⟨⟨_,rfl⟩,l',P.out,ZcO D.out (fun c t B r=>by
     rcases kids c i t r with rfl | rfl
     · omega
     · omega)⟩
theorem iInit(base p g c:Nat)(l:List Ht)(w:World)(h:HAt base w p g c l)(hl:l.length<=1048576):
 Calls Tryz.prog 246 #[.iface 245 (.pointer (some ⟨p,0,none⟩))] w fun e w'=>e=.returned (.tuple #[])/\∃l',HAt base w' p g c l'/\w.grownBy w' (some g)/\l'.Perm l/\ZbQ l' l'.length:=by
 have I:=ZaL Zkk p _ _ _ w h.cell
 obtain⟨m,A⟩:∃m,m=l.length / 2:=⟨_,rfl⟩
 have H:m<=1048576:=by omega
 have E:=Za (iLen (some ⟨g,0,none⟩) l.length c w)
 have u:=Za A
 clear A
 go_enter Tryz.func246,Tryz.ntmps246
 go_wp2_with fail
 refine E.out.mono ?_
 rintro e B ⟨rfl,rfl⟩
 go_wp2
 go_loopw [3] (fun s wr=>∃(k:Nat) (l':List Ht),s=.int .i64 ((k:Int)-1)/\k<=m/\Zc8 base B wr p g c l l' l.length/\Zgv k l' l.length) (fun s _=>(intOf s+1).toNat)
 case atStart=>exact⟨m,l,by congr 1;have:=u.out;omega,Nat.le_refl _,⟨h,Zbv _ _,List.Perm.refl _,fun _ _=>rfl⟩,by rw [u.out];exact Zjj l l.length⟩
 case round=>
  obtain⟨k,l',rfl,v,a,C⟩:=hrel
  have i:=Za a
  have o:=Za C
  have f:=Za (a.2.2.1.length_eq)
  clear a C
  match k,v,o with
  | 0,v,o=>
    have G:¬((((0:Nat):Int)-1)≥0):=by omega
    go_wp2
    go_end0
    exact⟨rfl,l',i.out.1,i.out.2.1,i.out.2.2.1,by rw [f.out];exact ZfP o.out⟩
  | j+1,v,o=>
    have x:(((j+1:Nat):Int)-1)=(j:Int):=by omega
    have J:wrap64 ((j:Int)-1)=(j:Int)-1:=by unfold wrap64;omega
    have G:(j:Int)≥0:=by omega
    have D:=Za (ZoJ base p g c j j l.length l' wr i.out.1 (by rw [f.out];exact Nat.le_refl _) (by rw [f.out];exact hl) (Nat.le_refl _) (by have:=u.out;omega) (Zjk o.out))
    rw [x]
    clear x
    go_wp2_with fail
    refine D.out.mono ?_
    rintro e F ⟨⟨b,rfl⟩,z,d,n⟩
    have t:Hid (Zc8 base B F p g c l z l.length):=⟨d.1,Zc9 i.out.2.1 d.2.1,d.2.2.1.trans i.out.2.2.1,fun q y=>(d.2.2.2 q y).trans (i.out.2.2.2 q y)⟩
    have r:=Za n
    clear d n
    go_wp2
    go_roundw
    case rel=>exact⟨j,z,by go_num,by omega,t.out,r.out⟩
    case measure=>simp [intOf]
def Chg(p g:Nat)(w w':World):Prop:=w'.os=w.os/\w'.tape=w.tape/\w'.output=w.output/\w.heap.size<=w'.heap.size/\∀i,i<w.heap.size->i≠p->i≠g->w'.heap[i]? =w.heap[i]?
theorem Chg.trans{p g:Nat}{w w1 w2:World}(h:Chg p g w w1)(k:Chg p g w1 w2):Chg p g w w2:=
 ⟨k.1.trans h.1,k.2.1.trans h.2.1,k.2.2.1.trans h.2.2.1,Nat.le_trans h.2.2.2.1 k.2.2.2.1,fun i hi h1 h2=>(k.2.2.2.2 i (Nat.lt_of_lt_of_le hi h.2.2.2.1) h1 h2).trans (h.2.2.2.2 i hi h1 h2)⟩
theorem Chg.row{p g:Nat}{w w':World}(h:w.grownBy w' (some g)):Chg p g w w':=⟨h.os,h.tape,h.output,h.size,fun i hi _ h2=>h.block i hi (fun e=>h2 (by injection e))⟩
theorem Chg.ptr{p g:Nat}{w w':World}(h:w.grownBy w' (some p)):Chg p g w w':=⟨h.os,h.tape,h.output,h.size,fun i hi h1 _=>h.block i hi (fun e=>h1 (by injection e))⟩
theorem Chg.below{p g:Nat}{w w':World}(h:Below w.heap.size w w'):Chg p g w w':=⟨h.os,h.tape,h.output,h.size,fun i hi _ _=>h.block i hi⟩
theorem Chg.far{p g q:Nat}{w w1 w2:World}(h:Chg p g w w1)(k:w1.grownBy w2 (some q))(hq:w.heap.size<=q):Chg p g w w2:=
 ⟨k.os.trans h.1,k.tape.trans h.2.1,k.output.trans h.2.2.1,Nat.le_trans h.2.2.2.1 k.size,fun i hi h1 h2=>(k.block i (Nat.lt_of_lt_of_le hi h.2.2.2.1) (fun e=>by injection e with e;omega)).trans (h.2.2.2.2 i hi h1 h2)⟩
theorem ZkX{l:List Ht}{n:Nat}(h:l.length=n+1):l.take n++[Zx l n]=l:=by
 have:Zx l n=l[n]:=by simp [Zx,List.getD,h]
 rw [this,List.take_append_getElem]
 exact List.take_of_length_le (by omega)
theorem ZkY{l:List Ht}{n:Nat}(h:ZbQ l n)(hn:n<=l.length):ZbQ (l.take n) (l.take n).length:=fun c h0 hc=>by
 have hc2:c<n:=by simp at hc;omega
 have a:par c<n:=by unfold par;omega
 rw [Zeu _ _ _ hc2,Zeu _ _ _ a]
 exact h c h0 hc2
theorem iHPop(base p g c n:Nat)(l:List Ht)(w:World)(h:HAt base w p g c l)(hl:l.length=n+1)(hn:n<=1048575)(hh:ZbQ l l.length):
 Calls Tryz.prog 247 #[.iface 245 (.pointer (some ⟨p,0,none⟩))] w fun e w'=>e=.returned (.iface 227 (.agg #[.int .i64 (Zx l 0).1,.int .i64 (Zx l 0).2]))/\∃l',HAt base w' p g c l'/\Chg p g w w'/\(Zx l 0::l').Perm l/\ZbQ l' l'.length:=by
 have C:=ZaL Zkk p _ _ _ w h.cell
 have G:=ZaL Zd8 p _ _ _ w h.cell
 have v:=Za (iLen (some ⟨g,0,none⟩) l.length c w)
 have A:=Za (Zki base g c 0 n l w h.2.2 (by omega) (by omega))
 have x:=Za (And.intro h (And.intro hl hh))
 have J:wrap64 ((l.length:Int)-1)=(n:Int):=by unfold wrap64;omega
 clear h hl hh
 go_enter Tryz.func247,Tryz.ntmps247
 go_wp2_with fail
 refine v.out.mono ?_
 rintro e E ⟨rfl,rfl⟩
 go_wp2_with fail
 refine A.out.mono ?_
 rintro e D ⟨rfl,k,f⟩
 obtain⟨h,hl,hh⟩:=x.out
 have z:=h.put k (Zbm _ _ _) f
 rw [hl] at hh
 have y:=ZoJ base p g c 0 0 n (ZbP l 0 n) D z (by rw [Zbm];omega) (by rw [Zbm];omega) (Nat.le_refl _) (Nat.zero_le _) (ZkZ hh (by omega))
 have u:=Za y
 have q:=Za f
 clear h hl hh z y k f G C A v
 go_wp2_with fail
 refine u.out.mono ?_
 rintro e r ⟨⟨b,rfl⟩,i,a,m⟩
 obtain⟨h,hl,hh⟩:=x.out
 have d:i.length=n+1:=by rw [a.2.2.1.length_eq,Zbm];exact hl
 have o:Zx i n=Zx l 0:=by
  rw [a.2.2.2 n (Nat.le_refl _),Zd7 l 0 n n (by omega) (by omega) (by omega),if_pos rfl]
 have j:(Zx l 0::i.take n).Perm l:=by
  have:=ZkX d
  rw [o] at this
  refine List.Perm.trans ?_ (a.2.2.1.trans (ZfM l 0 n (by omega) (by omega)))
  rw [<-this]
  exact (List.perm_append_singleton _ _).symm.trans (by rw [List.take_left' (by simp;omega)])
 have B:=Za (iPop base p g c n i r a.1 d (by omega))
 rw [o] at B
 have t:Hid (Chg p g E r/\(Zx l 0::i.take n).Perm l/\ZbQ (i.take n) (i.take n).length):=⟨(Chg.row q.out).trans (Chg.row a.2.1),j,ZkY (ZfP m) (by omega)⟩
 have H:=Zjl Zn5 p r
 clear h hl hh d o j a m u
 go_wp2_with fail
 refine B.out.mono ?_
 rintro e I ⟨rfl,F,s⟩
 go_wp2
 go_ret
 exact⟨rfl,_,F,t.out.1.trans (Chg.ptr s),t.out.2.1,t.out.2.2⟩
theorem HAt.other{base:Nat}{w w':World}{p g c q:Nat}{l:List Ht}(h:HAt base w p g c l)(hg:w.grownBy w' (some q))(h1:p≠q)(h2:g≠q):HAt base w' p g c l:=
 ⟨h.1,(hg.block p h.lt (fun e=>h1 (by injection e))).trans h.2.1,h.2.2.kept hg (fun e=>h2 (by injection e))⟩
theorem Zjm(v:Value)(w:World):Sem.run Tryz.prog (Instr.typeAssert (.iface 227 v) 20 227 false) w=.ok v w:=by
 unfold Instr.typeAssert
 simp [go_sem]
theorem iNext(base p g c n:Nat)(l:List Ht)(w:World)(h:HAt base w p g c l)(hl:l.length=n+1)(hn:n<=1048575)(hh:ZbQ l l.length):
 Calls Tryz.prog 231 #[.pointer (some ⟨p,0,none⟩)] w fun e w'=>e=.returned (.agg #[.int .i64 (Zx l 0).1,.int .i64 (Zx l 0).2])/\∃l',HAt base w' p g c l'/\Chg p g w w'/\(Zx l 0::l').Perm l/\ZbQ l' l'.length:=by
 have j:=(Below.refl w.heap.size w).alloc (Nat.le_refl _) (.cells #[.int .i64 0,.int .i64 0] 227)
 have D:=Za (iHPop base p g c n l _ (h.below j) hl hn hh)
 have s:=Za (And.intro j (And.intro h.lt h.2.2.lt.2))
 have r:(w.alloc (.cells #[.int .i64 0,.int .i64 0] 227)).heap[w.heap.size]? =some (.cells #[.int .i64 0,.int .i64 0] 227 (0,0)):=by unfold World.alloc;simp only [Array.getElem?_push_size]
 have A:=Za r
 clear h hl hh j r
 go_enter Tryz.func231,Tryz.ntmps231
 go_wp2_with fail
 refine D.out.mono ?_
 rintro e d ⟨rfl,x,k,a,f,i⟩
 have b:d.heap[w.heap.size]? =some (.cells #[.int .i64 0,.int .i64 0] 227 (0,0)):=by
  obtain⟨_,G,F⟩:=s.out
  rw [a.2.2.2.2 w.heap.size (by simp) (by omega) (by omega)]
  exact A.out
 have o:d.cell? ⟨w.heap.size,0,none⟩=some (.int .i64 0):=by simp [World.cell?,b]
 have m:d.cell? ⟨w.heap.size,1,none⟩=some (.int .i64 0):=by simp [World.cell?,b]
 have E:d.frozen? ⟨w.heap.size,0,none⟩=false:=by simp [World.frozen?,b]
 have u:d.frozen? ⟨w.heap.size,1,none⟩=false:=by simp [World.frozen?,b]
 have B:=Za (And.intro k (And.intro a (And.intro f i)))
 clear k a f i b
 have H:=Zjm (.agg #[.int .i64 (Zx l 0).1,.int .i64 (Zx l 0).2]) d
 go_wp2
 have C:((d.setCell ⟨w.heap.size,0,none⟩ (.int .i64 (Zx l 0).1)).setCell ⟨w.heap.size,1,none⟩ (.int .i64 (Zx l 0).2)).cell? ⟨w.heap.size,0,none⟩=some (.int .i64 (Zx l 0).1):=by
  rw [ZP _ _ _ _ _ (by omega)]
  exact World.cell?_setCell_same _ _ _ o
 have z:((d.setCell ⟨w.heap.size,0,none⟩ (.int .i64 (Zx l 0).1)).setCell ⟨w.heap.size,1,none⟩ (.int .i64 (Zx l 0).2)).cell? ⟨w.heap.size,1,none⟩=some (.int .i64 (Zx l 0).2):=
  World.cell?_setCell_same _ _ _ (by rw [ZP _ _ _ _ _ (by omega)];exact m)
 have q:d.grownBy ((d.setCell ⟨w.heap.size,0,none⟩ (.int .i64 (Zx l 0).1)).setCell ⟨w.heap.size,1,none⟩ (.int .i64 (Zx l 0).2)) (some w.heap.size):=Zal (Zal (Zbv _ _))
 refine bodyPost_ret (v:=.agg #[.int .i64 (Zx l 0).1,.int .i64 (Zx l 0).2]) (by simp [results,Tryz.results231,go_sem,C,z]) rfl ?_
 obtain⟨k,a,f,i⟩:=B.out
 obtain⟨j,t,y⟩:=s.out
 exact⟨rfl,x,k.other q (by omega) (by omega),((Chg.below j).trans a).far q (Nat.le_refl _),f,i⟩
end Go.Proofs.YtilkaeclgmcolaaGreat
