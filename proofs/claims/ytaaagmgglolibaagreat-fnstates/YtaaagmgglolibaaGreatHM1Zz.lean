import Derived.Test.YtaaagmgglolibaaGreatHSpecZz
import Derived.Test.YtaaagmgglolibaaGreatWithZz
import Derived.Test.YtaaagmgglolibaaGreatMathZz
import Derived.RegionTactic
import Derived.ChangeAlike
import Derived.BigRegion
set_option maxRecDepth 100000
set_option maxHeartbeats 4000000
namespace Go.Proofs.YtaaagmgglolibaaGreat
open Go Go.RowKit
theorem Zjs(base g c i j:Nat)(l:List Ht)(w:World)(hr:ZN base w g c l)(hi:i<l.length)(hj:j<l.length):
 Calls Tryz.prog 350 #[.slice (some ⟨g,0,none⟩) l.length c,.int .i64 i,.int .i64 j] w fun e w'=>e=.returned (.tuple #[])/\ZN base w' g c (ZbM l i j)/\w.grownBy w' (some g):=by
 obtain⟨hc0,hc1⟩:=hr.seg i hi
 obtain⟨hd0,hd1⟩:=hr.seg j hj
 rw [Nat.zero_add] at hc0 hc1 hd0 hd1
 have hfi0:=World.ownsRow.frozenAt hr (i*2)
 have hfi1:=World.ownsRow.frozenAt hr (i*2+1)
 have hfj0:=World.ownsRow.frozenAt hr (j*2)
 have hfj1:=World.ownsRow.frozenAt hr (j*2+1)
 have h1:=hr.store i (Zr l j)
 obtain⟨he0,he1⟩:=h1.seg j (by simpa using hj)
 rw [Nat.zero_add] at he0 he1
 have HR:=Za (h1.store j (Zr l i))
 have HG:Hid (w.grownBy ((((w.setCell ⟨g,i*2,none⟩ (.int .i64 (Zr l j).1)).setCell ⟨g,i*2+1,none⟩ (.int .i64 (Zr l j).2)).setCell ⟨g,j*2,none⟩ (.int .i64 (Zr l i).1)).setCell ⟨g,j*2+1,none⟩ (.int .i64 (Zr l i).2)) (some g)):=Zau (Zau (Zau (Zau (ZI w _))))
 have hgi0:(0:Int)<=(i:Int):=by omega
 have hgi:(i:Int)<(l.length:Int):=by omega
 have hgj0:(0:Int)<=(j:Int):=by omega
 have hgj:(j:Int)<(l.length:Int):=by omega
 clear h1 hr
 go_enter Tryz.func350,Tryz.ntmps350
 go_wp2
 go_region
 go_end0
 exact⟨rfl,HR.out,⟨HG.out.os,HG.out.tape,HG.out.output,HG.out.size,HG.out.block⟩⟩
theorem iLen(ao:Option Addr)(n c:Nat)(w:World):
 Calls Tryz.prog 256 #[.slice ao n c] w fun e w'=>e=.returned (.int .i64 n)/\w'=w:=by
 go_enter Tryz.func256,Tryz.ntmps256
 go_wp2
 go_ret
 exact⟨rfl,rfl⟩
def HAt(base:Nat)(w:World)(p g c:Nat)(l:List Ht):Prop:=p≠g/\w.heap[p]? =some (.cells #[.slice (some ⟨g,0,none⟩) l.length c] 308 (0,0))/\ZN base w g c l
theorem ZlC{w:World}{p:Nat}{o:Obj}(h:w.heap[p]? =some o):p<w.heap.size:=by
 rcases Nat.lt_or_ge p w.heap.size with h1 | h1
 · exact h1
 · rw [Array.getElem?_eq_none h1] at h;cases h
theorem HAt.cell{base:Nat}{w:World}{p g c:Nat}{l:List Ht}(h:HAt base w p g c l):w.cell? ⟨p,0,none⟩=some (.slice (some ⟨g,0,none⟩) l.length c):=by simp [World.cell?,h.2.1]
theorem HAt.frozen{base:Nat}{w:World}{p g c:Nat}{l:List Ht}(h:HAt base w p g c l):w.frozen? ⟨p,0,none⟩=false:=by simp [World.frozen?,h.2.1]
theorem HAt.lt{base:Nat}{w:World}{p g c:Nat}{l:List Ht}(h:HAt base w p g c l):p<w.heap.size:=ZlC h.2.1
theorem HAt.below{base:Nat}{w w':World}{p g c:Nat}{l:List Ht}(h:HAt base w p g c l)(hw:Below w.heap.size w w'):HAt base w' p g c l:=
 ⟨h.1,(hw.block p h.lt).trans h.2.1,h.2.2.below (Nat.le_refl _) hw⟩
theorem HAt.put{base:Nat}{w w':World}{p g c:Nat}{l l':List Ht}(h:HAt base w p g c l)(hr:ZN base w' g c l')(hl:l'.length=l.length)(hg:w.grownBy w' (some g)):HAt base w' p g c l':=
 ⟨h.1,by rw [hl];exact (hg.block p h.lt (fun e=>h.1 (by injection e))).trans h.2.1,hr⟩
theorem ZmR{base:Nat}{w:World}{g c:Nat}{l:List Ht}(h:ZN base w g c l)(n:Nat):ZN base w g c (l.take n):=by
 obtain⟨h1,⟨h2,_⟩ | ⟨g',c',cur,e,hb,hh,hn,hc,hs,hx⟩⟩:=h
 · cases h2
 · injection e with e1 e2 e3
   injection e1 with e1
   injection e1 with e1
   subst e1 e3
   have ht:Zm (l.take n)=cur.toList.take ((l.take n).length*2):=by
    have e4:Zm l=Zm (l.take n)++Zm (l.drop n):=by rw [<-Zal,List.take_append_drop]
    rw [<-Za9,show cur.toList.take (Zm (l.take n)).length=(cur.toList.take (l.length*2)).take (Zm (l.take n)).length by
     rw [List.take_take,Za9,Nat.min_eq_left];simp;omega,hx,e4,List.take_left]
   refine⟨Za9 _,Or.inr ⟨g,c,cur,rfl,hb,hh,?_,hc,hs,ht.symm⟩⟩
   simp;omega
theorem Zdk(w:World)(p i q j:Nat)(v:Value)(h:p≠q):(w.setCell ⟨p,i,none⟩ v).cell? ⟨q,j,none⟩=w.cell? ⟨q,j,none⟩:=by
 exact World.cell?_setCell_far w _ _ v h
theorem Zfg{w:World}{p:Nat}{u:Value}{t:TypeId}(h:w.heap[p]? =some (.cells #[u] t (0,0)))(v:Value):(w.setCell ⟨p,0,none⟩ v).heap[p]? =some (.cells #[v] t (0,0)):=by
 unfold World.setCell
 rw [Array.getElem?_modify,if_pos rfl,h]
 rfl
theorem iPop(base p g c n:Nat)(l:List Ht)(w:World)(h:HAt base w p g c l)(hl:l.length=n+1)(hn:n<=1048576):
 Calls Tryz.prog 349 #[.pointer (some ⟨p,0,none⟩)] w fun e w'=>e=.returned (.iface 66 (.agg #[.int .i64 (Zr l n).1,.int .i64 (Zr l n).2]))/\HAt base w' p g c (l.take n)/\w.grownBy w' (some p):=by
 obtain⟨hc0,hc1⟩:=h.2.2.seg n (by omega)
 rw [Nat.zero_add] at hc0 hc1
 have hp:=h.cell
 have hf:=h.frozen
 have hcap:=h.2.2.cap
 have HH:=Za h
 have HL:=Za hl
 rw [hl] at hp hcap
 have hx:wrap64 ((n:Int)+1-1)=n:=by unfold wrap64;omega
 have hpl:=h.lt
 have hne:p≠w.heap.size:=by omega
 obtain⟨O,hO⟩:∃O,O=Obj.cells #[.int .i64 (Zr l n).1,.int .i64 (Zr l n).2] 66:=⟨_,rfl⟩
 have hB:=(Below.refl w.heap.size w).alloc (Nat.le_refl _) O
 have h2:=h.below hB
 have hp2:=h2.cell
 have hf2:=h2.frozen
 rw [hl] at hp2
 obtain⟨v,hv⟩:∃v:Value,v=.slice (some ⟨g,0,none⟩) n c:=⟨_,rfl⟩
 have hq0:((w.alloc O).setCell ⟨p,0,none⟩ v).cell? ⟨w.heap.size,0,none⟩=some (.int .i64 (Zr l n).1):=by
  rw [Zdk _ _ _ _ _ _ hne,hO];simp
 have hq1:((w.alloc O).setCell ⟨p,0,none⟩ v).cell? ⟨w.heap.size,1,none⟩=some (.int .i64 (Zr l n).2):=by
  rw [Zdk _ _ _ _ _ _ hne,hO];simp
 have HE:Hid (HAt base ((w.alloc O).setCell ⟨p,0,none⟩ v) p g c (l.take n)/\w.grownBy ((w.alloc O).setCell ⟨p,0,none⟩ v) (some p)):=by
  refine⟨⟨h.1,?_,?_⟩,Zau ⟨hB.os,hB.tape,hB.output,hB.size,fun i hi _=>hB.block i hi⟩⟩
  · rw [Zfg (h2.2.1) v,hv,List.length_take,hl,Nat.min_eq_left (by omega)]
  · exact ZmR (h2.2.2.kept (r:=some p) (Zau (ZI _ _)) (fun e=>h.1 (by injection e with e;exact e.symm))) n
 rw [World.setCell_alloc_past O p 0 v hpl] at HE
 subst hO hv
 clear h hl h2 hB
 go_enter Tryz.func349,Tryz.ntmps349
 go_wp2
 go_ret
 exact⟨rfl,HE.out.1,HE.out.2⟩
def ZcT(base:Nat)(w w':World)(p g c:Nat)(l l':List Ht)(n:Nat):Prop:=HAt base w' p g c l'/\w.grownBy w' (some g)/\l'.Perm l/\∀k,n<=k->Zr l' k=Zr l k
theorem ZcT.below{base:Nat}{w w1 w2:World}{p g c n:Nat}{l l':List Ht}(h:ZcT base w w1 p g c l l' n)(hb:Below w1.heap.size w1 w2):ZcT base w w2 p g c l l' n:=
 ⟨h.1.below hb,Zh h.2.1 ⟨hb.os,hb.tape,hb.output,hb.size,fun i hi _=>hb.block i hi⟩,h.2.2⟩
theorem Zj5(l:List Ht)(i j k:Nat)(hi:i<l.length)(hj:j<l.length)(h1:k≠i)(h2:k≠j):Zr (ZbM l i j) k=Zr l k:=by
 rcases Nat.lt_or_ge k l.length with h | h
 · rw [ZdQ l i j k hi hj h,if_neg h2,if_neg h1]
 · simp [Zr,List.getD,ZbM,h]
theorem ZcT.swap{base:Nat}{w w1 w2:World}{p g c n i j:Nat}{l l':List Ht}(h:ZcT base w w1 p g c l l' n)(hr:ZN base w2 g c (ZbM l' i j))(hg:w1.grownBy w2 (some g))(hi:i<n)(hj:j<n)(hn:n<=l'.length):ZcT base w w2 p g c l (ZbM l' i j) n:=
 ⟨h.1.put hr (Zbo _ _ _) hg,Zh h.2.1 hg,(Zfh _ _ _ (by omega) (by omega)).trans h.2.2.1,fun k hk=>by rw [Zj5 _ _ _ _ (by omega) (by omega) (by omega) (by omega)];exact h.2.2.2 k hk⟩
theorem ZnF(base p g c s i0 n:Nat)(l:List Ht)(w:World)(h:HAt base w p g c l)(hn:n<=l.length)(hl:l.length<=1048576)(hs:s<=i0)(hi:i0<=n)(hd:Zfi s l n i0):
 Calls Tryz.prog 308 #[.iface 239 (.pointer (some ⟨p,0,none⟩)),.int .i64 i0,.int .i64 n] w fun e w'=>(∃b,e=.returned (.bool b))/\∃l',ZcT base w w' p g c l l' n/\Zf3 s l' n:=by
 go_enter Tryz.func308,Tryz.ntmps308
 go_wp2
 go_loopw [7] (fun vi wr=>∃(i:Nat) (l':List Ht),vi=.int .i64 i/\s<=i/\i<=n/\ZcT base w wr p g c l l' n/\Zfi s l' n i) (fun vi _=>n-(intOf vi).toNat)
 case atStart=>exact⟨i0,l,rfl,hs,hi,⟨h,ZI _ _,List.Perm.refl _,fun _ _=>rfl⟩,hd⟩
 case round=>
  obtain⟨i,l',rfl,hsi,hin,hk,hdn⟩:=hrel
  have HK:=Za hk
  have HD:=Za hdn
  have HL:=Za (hk.2.2.1.length_eq)
  have hn':n<=l'.length:=by rw [HL.out];exact hn
  have hl':l'.length<=1048576:=by rw [HL.out];exact hl
  have hc:=hk.1.cell
  have ML:=ZaM Zfj p _ _ _ wr hc
  have x1:wrap64 (2*(i:Int))=2*(i:Int):=by unfold wrap64;omega
  have x2:wrap64 (2*(i:Int)+1)=2*(i:Int)+1:=by unfold wrap64;omega
  have x3:wrap64 (2*(i:Int)+1+1)=2*(i:Int)+1+1:=by unfold wrap64;omega
  have e1:((2*i+1:Nat):Int)=2*(i:Int)+1:=by omega
  have e2:((2*i+2:Nat):Int)=2*(i:Int)+1+1:=by omega
  by_cases hlt:2*i+1<n
  · have HC:=Za (Zjt g 0 l'.length c (2*i+2) (2*i+1) l' wr hk.1.2.2.lt.2 hk.1.2.2.seg (Nat.le_refl _))
    rw [e1,e2] at HC
    clear hk hdn e1 e2
    by_cases hr:2*i+2<n
    · have d1:¬(2*(i:Int)+1≥(n:Int)):=by omega
      have d2:(2*(i:Int)+1+1<(n:Int)):=by omega
      go_wp2_with fail
      refine (HC.out (by omega) (by omega)).mono ?_
      rintro e w2 ⟨rfl,hb⟩
      have HK2:=Za (HK.out.below hb)
      have ML2:=ZaM Zfj p _ _ _ w2 HK2.out.1.cell
      clear hb hc ML
      rcases ha:Zai (Zr l' (2*i+2)) (Zr l' (2*i+1)) with _ | _
      · have HM:Hid (∀c,0<c->c<n->par c=i->leH (Zr l' (2*i+1)) (Zr l' c)):=fun c h0 h1 h2=>by
         rcases kids c i h0 h2 with rfl | rfl
         · exact Zcp _
         · exact (ZaN _ _).1 ha
        have HC2:=Za (Zjt g 0 l'.length c (2*i+1) i l' w2 HK2.out.1.2.2.lt.2 HK2.out.1.2.2.seg (Nat.le_refl _))
        have HS2:=Za (fun w3 h3=>Zjs base g c i (2*i+1) l' w3 h3)
        rw [show ((2*i+1:Nat):Int)=2*(i:Int)+1 by omega] at HC2 HS2
        go_wp2_with fail
        refine (HC2.out (by omega) (by omega)).mono ?_
        rintro e w3 ⟨rfl,hb3⟩
        have HK3:=Za (HK2.out.below hb3)
        have MS3:=ZaM ZdR p _ _ _ w3 HK3.out.1.cell
        clear hb3 ML2
        rcases hf:Zai (Zr l' (2*i+1)) (Zr l' i) with _ | _
        · go_wp2
          go_ret
          exact⟨⟨_,rfl⟩,l',HK3.out,Zcz HD.out (fun c h0 h1 h2=>Zcq ((ZaN _ _).1 hf) (HM.out c h0 h1 h2))⟩
        · go_wp2_with fail
          refine (HS2.out w3 HK3.out.1.2.2 (by omega) (by omega)).mono ?_
          rintro e w4 ⟨rfl,hr4,hg4⟩
          have HK4:=Za (HK3.out.swap hr4 hg4 (by omega) (by omega) hn')
          have HD4:=Za (Zdx HD.out hsi hn' (by omega) (by omega) (by unfold par;omega) HM.out hf)
          clear hr4 hg4 MS3
          go_wp2
          go_roundw
          case rel=>exact⟨2*i+1,_,by go_num,by omega,by omega,HK4.out,HD4.out⟩
          case measure=>simp [intOf];omega
      · have HM:Hid (∀c,0<c->c<n->par c=i->leH (Zr l' (2*i+2)) (Zr l' c)):=fun c h0 h1 h2=>by
         rcases kids c i h0 h2 with rfl | rfl
         · exact ZcA ha
         · exact Zcp _
        have HC2:=Za (Zjt g 0 l'.length c (2*i+2) i l' w2 HK2.out.1.2.2.lt.2 HK2.out.1.2.2.seg (Nat.le_refl _))
        have HS2:=Za (fun w3 h3=>Zjs base g c i (2*i+2) l' w3 h3)
        rw [show ((2*i+2:Nat):Int)=2*(i:Int)+1+1 by omega] at HC2 HS2
        go_wp2_with fail
        refine (HC2.out (by omega) (by omega)).mono ?_
        rintro e w3 ⟨rfl,hb3⟩
        have HK3:=Za (HK2.out.below hb3)
        have MS3:=ZaM ZdR p _ _ _ w3 HK3.out.1.cell
        clear hb3 ML2
        rcases hf:Zai (Zr l' (2*i+2)) (Zr l' i) with _ | _
        · go_wp2
          go_ret
          exact⟨⟨_,rfl⟩,l',HK3.out,Zcz HD.out (fun c h0 h1 h2=>Zcq ((ZaN _ _).1 hf) (HM.out c h0 h1 h2))⟩
        · go_wp2_with fail
          refine (HS2.out w3 HK3.out.1.2.2 (by omega) (by omega)).mono ?_
          rintro e w4 ⟨rfl,hr4,hg4⟩
          have HK4:=Za (HK3.out.swap hr4 hg4 (by omega) (by omega) hn')
          have HD4:=Za (Zdx HD.out hsi hn' (by omega) (by omega) (by unfold par;omega) HM.out hf)
          clear hr4 hg4 MS3
          go_wp2
          go_roundw
          case rel=>exact⟨2*i+2,_,by go_num,by omega,by omega,HK4.out,HD4.out⟩
          case measure=>simp [intOf];omega
    · have d1:¬(2*(i:Int)+1≥(n:Int)):=by omega
      have d2:¬(2*(i:Int)+1+1<(n:Int)):=by omega
      obtain⟨w2,hw2⟩:∃w2,w2=wr:=⟨_,rfl⟩
      have HK2:Hid (ZcT base w w2 p g c l l' n):=by rw [hw2];exact HK
      have ML2:=ZaM Zfj p _ _ _ w2 HK2.out.1.cell
      subst hw2
      clear hc ML HC
      have HM:Hid (∀c,0<c->c<n->par c=i->leH (Zr l' (2*i+1)) (Zr l' c)):=fun c h0 h1 h2=>by
       rcases kids c i h0 h2 with rfl | rfl
       · exact Zcp _
       · omega
      have HC2:=Za (Zjt g 0 l'.length c (2*i+1) i l' w2 HK2.out.1.2.2.lt.2 HK2.out.1.2.2.seg (Nat.le_refl _))
      have HS2:=Za (fun w3 h3=>Zjs base g c i (2*i+1) l' w3 h3)
      rw [show ((2*i+1:Nat):Int)=2*(i:Int)+1 by omega] at HC2 HS2
      go_wp2_with fail
      refine (HC2.out (by omega) (by omega)).mono ?_
      rintro e w3 ⟨rfl,hb3⟩
      have HK3:=Za (HK2.out.below hb3)
      have MS3:=ZaM ZdR p _ _ _ w3 HK3.out.1.cell
      clear hb3 ML2
      rcases hf:Zai (Zr l' (2*i+1)) (Zr l' i) with _ | _
      · go_wp2
        go_ret
        exact⟨⟨_,rfl⟩,l',HK3.out,Zcz HD.out (fun c h0 h1 h2=>Zcq ((ZaN _ _).1 hf) (HM.out c h0 h1 h2))⟩
      · go_wp2_with fail
        refine (HS2.out w3 HK3.out.1.2.2 (by omega) (by omega)).mono ?_
        rintro e w4 ⟨rfl,hr4,hg4⟩
        have HK4:=Za (HK3.out.swap hr4 hg4 (by omega) (by omega) hn')
        have HD4:=Za (Zdx HD.out hsi hn' (by omega) (by omega) (by unfold par;omega) HM.out hf)
        clear hr4 hg4 MS3
        go_wp2
        go_roundw
        case rel=>exact⟨2*i+1,_,by go_num,by omega,by omega,HK4.out,HD4.out⟩
        case measure=>simp [intOf];omega
  · have d1:(2*(i:Int)+1≥(n:Int)):=by omega
    clear hk hdn hc ML e1 e2
    go_wp2
    go_ret
    exact⟨⟨_,rfl⟩,l',HK.out,Zcz HD.out (fun c h0 h1 h2=>by
     rcases kids c i h0 h2 with rfl | rfl
     · omega
     · omega)⟩
theorem iInit(base p g c:Nat)(l:List Ht)(w:World)(h:HAt base w p g c l)(hl:l.length<=1048576):
 Calls Tryz.prog 288 #[.iface 239 (.pointer (some ⟨p,0,none⟩))] w fun e w'=>e=.returned (.tuple #[])/\∃l',HAt base w' p g c l'/\w.grownBy w' (some g)/\l'.Perm l/\ZbN l' l'.length:=by
 have ML:=ZaM Zju p _ _ _ w h.cell
 obtain⟨m,hm⟩:∃m,m=l.length / 2:=⟨_,rfl⟩
 have hm2:m<=1048576:=by omega
 have HL:=Za (iLen (some ⟨g,0,none⟩) l.length c w)
 have HM:=Za hm
 clear hm
 go_enter Tryz.func288,Tryz.ntmps288
 go_wp2_with fail
 refine HL.out.mono ?_
 rintro e w2 ⟨rfl,rfl⟩
 go_wp2
 go_loopw [3] (fun vi wr=>∃(k:Nat) (l':List Ht),vi=.int .i64 ((k:Int)-1)/\k<=m/\ZcT base w2 wr p g c l l' l.length/\Zf3 k l' l.length) (fun vi _=>(intOf vi+1).toNat)
 case atStart=>exact⟨m,l,by congr 1;have:=HM.out;omega,Nat.le_refl _,⟨h,ZI _ _,List.Perm.refl _,fun _ _=>rfl⟩,by rw [HM.out];exact Ziw l l.length⟩
 case round=>
  obtain⟨k,l',rfl,hk,hkept,hs⟩:=hrel
  have HK:=Za hkept
  have HS:=Za hs
  have HLL:=Za (hkept.2.2.1.length_eq)
  clear hkept hs
  match k,hk,HS with
  | 0,hk,HS=>
    have d1:¬((((0:Nat):Int)-1)≥0):=by omega
    go_wp2
    go_end0
    exact⟨rfl,l',HK.out.1,HK.out.2.1,HK.out.2.2.1,by rw [HLL.out];exact Zfk HS.out⟩
  | j+1,hk,HS=>
    have e1:(((j+1:Nat):Int)-1)=(j:Int):=by omega
    have x3:wrap64 ((j:Int)-1)=(j:Int)-1:=by unfold wrap64;omega
    have d1:(j:Int)≥0:=by omega
    have HD:=Za (ZnF base p g c j j l.length l' wr HK.out.1 (by rw [HLL.out];exact Nat.le_refl _) (by rw [HLL.out];exact hl) (Nat.le_refl _) (by have:=HM.out;omega) (Zix HS.out))
    rw [e1]
    clear e1
    go_wp2_with fail
    refine HD.out.mono ?_
    rintro e w3 ⟨⟨b,rfl⟩,l2,hk2,hs2⟩
    have HK2:Hid (ZcT base w2 w3 p g c l l2 l.length):=⟨hk2.1,Zh HK.out.2.1 hk2.2.1,hk2.2.2.1.trans HK.out.2.2.1,fun q hq=>(hk2.2.2.2 q hq).trans (HK.out.2.2.2 q hq)⟩
    have HS2:=Za hs2
    clear hk2 hs2
    go_wp2
    go_roundw
    case rel=>exact⟨j,l2,by go_num,by omega,HK2.out,HS2.out⟩
    case measure=>simp [intOf]
def Chg(p g:Nat)(w w':World):Prop:=w'.os=w.os/\w'.tape=w.tape/\w'.output=w.output/\w.heap.size<=w'.heap.size/\∀i,i<w.heap.size->i≠p->i≠g->w'.heap[i]? =w.heap[i]?
theorem Chg.trans{p g:Nat}{w w1 w2:World}(h:Chg p g w w1)(k:Chg p g w1 w2):Chg p g w w2:=
 ⟨k.1.trans h.1,k.2.1.trans h.2.1,k.2.2.1.trans h.2.2.1,Nat.le_trans h.2.2.2.1 k.2.2.2.1,fun i hi h1 h2=>(k.2.2.2.2 i (Nat.lt_of_lt_of_le hi h.2.2.2.1) h1 h2).trans (h.2.2.2.2 i hi h1 h2)⟩
theorem Chg.row{p g:Nat}{w w':World}(h:w.grownBy w' (some g)):Chg p g w w':=⟨h.os,h.tape,h.output,h.size,fun i hi _ h2=>h.block i hi (fun e=>h2 (by injection e))⟩
theorem Chg.ptr{p g:Nat}{w w':World}(h:w.grownBy w' (some p)):Chg p g w w':=⟨h.os,h.tape,h.output,h.size,fun i hi h1 _=>h.block i hi (fun e=>h1 (by injection e))⟩
theorem Chg.below{p g:Nat}{w w':World}(h:Below w.heap.size w w'):Chg p g w w':=⟨h.os,h.tape,h.output,h.size,fun i hi _ _=>h.block i hi⟩
theorem Chg.far{p g q:Nat}{w w1 w2:World}(h:Chg p g w w1)(k:w1.grownBy w2 (some q))(hq:w.heap.size<=q):Chg p g w w2:=
 ⟨k.os.trans h.1,k.tape.trans h.2.1,k.output.trans h.2.2.1,Nat.le_trans h.2.2.2.1 k.size,fun i hi h1 h2=>(k.block i (Nat.lt_of_lt_of_le hi h.2.2.2.1) (fun e=>by injection e with e;omega)).trans (h.2.2.2.2 i hi h1 h2)⟩
theorem Zj6{l:List Ht}{n:Nat}(h:l.length=n+1):l.take n++[Zr l n]=l:=by
 have:Zr l n=l[n]:=by simp [Zr,List.getD,h]
 rw [this,List.take_append_getElem]
 exact List.take_of_length_le (by omega)
theorem Zj7{l:List Ht}{n:Nat}(h:ZbN l n)(hn:n<=l.length):ZbN (l.take n) (l.take n).length:=fun c h0 hc=>by
 have hc2:c<n:=by simp at hc;omega
 have hp:par c<n:=by unfold par;omega
 rw [Zef _ _ _ hc2,Zef _ _ _ hp]
 exact h c h0 hc2
theorem iHPop(base p g c n:Nat)(l:List Ht)(w:World)(h:HAt base w p g c l)(hl:l.length=n+1)(hn:n<=1048575)(hh:ZbN l l.length):
 Calls Tryz.prog 289 #[.iface 239 (.pointer (some ⟨p,0,none⟩))] w fun e w'=>e=.returned (.iface 66 (.agg #[.int .i64 (Zr l 0).1,.int .i64 (Zr l 0).2]))/\∃l',HAt base w' p g c l'/\Chg p g w w'/\(Zr l 0::l').Perm l/\ZbN l' l'.length:=by
 have ML:=ZaM Zju p _ _ _ w h.cell
 have MS:=ZaM ZdR p _ _ _ w h.cell
 have HL:=Za (iLen (some ⟨g,0,none⟩) l.length c w)
 have HS:=Za (Zjs base g c 0 n l w h.2.2 (by omega) (by omega))
 have HH:=Za (And.intro h (And.intro hl hh))
 have x1:wrap64 ((l.length:Int)-1)=(n:Int):=by unfold wrap64;omega
 clear h hl hh
 go_enter Tryz.func289,Tryz.ntmps289
 go_wp2_with fail
 refine HL.out.mono ?_
 rintro e w2 ⟨rfl,rfl⟩
 go_wp2_with fail
 refine HS.out.mono ?_
 rintro e w3 ⟨rfl,hr3,hg3⟩
 obtain⟨h,hl,hh⟩:=HH.out
 have h3:=h.put hr3 (Zbo _ _ _) hg3
 rw [hl] at hh
 have hd:=ZnF base p g c 0 0 n (ZbM l 0 n) w3 h3 (by rw [Zbo];omega) (by rw [Zbo];omega) (Nat.le_refl _) (Nat.zero_le _) (Zj8 hh (by omega))
 have HD:=Za hd
 have HG3:=Za hg3
 clear h hl hh h3 hd hr3 hg3 MS ML HS HL
 go_wp2_with fail
 refine HD.out.mono ?_
 rintro e w4 ⟨⟨b,rfl⟩,l4,hk4,hs4⟩
 obtain⟨h,hl,hh⟩:=HH.out
 have hl4:l4.length=n+1:=by rw [hk4.2.2.1.length_eq,Zbo];exact hl
 have e4:Zr l4 n=Zr l 0:=by
  rw [hk4.2.2.2 n (Nat.le_refl _),ZdQ l 0 n n (by omega) (by omega) (by omega),if_pos rfl]
 have hp4:(Zr l 0::l4.take n).Perm l:=by
  have:=Zj6 hl4
  rw [e4] at this
  refine List.Perm.trans ?_ (hk4.2.2.1.trans (Zfh l 0 n (by omega) (by omega)))
  rw [<-this]
  exact (List.perm_append_singleton _ _).symm.trans (by rw [List.take_left' (by simp;omega)])
 have HP:=Za (iPop base p g c n l4 w4 hk4.1 hl4 (by omega))
 rw [e4] at HP
 have HF:Hid (Chg p g w2 w4/\(Zr l 0::l4.take n).Perm l/\ZbN (l4.take n) (l4.take n).length):=⟨(Chg.row HG3.out).trans (Chg.row hk4.2.1),hp4,Zj7 (Zfk hs4) (by omega)⟩
 have MP:=Ziy ZmS p w4
 clear h hl hh hl4 e4 hp4 hk4 hs4 HD
 go_wp2_with fail
 refine HP.out.mono ?_
 rintro e w5 ⟨rfl,h5,hg5⟩
 go_wp2
 go_ret
 exact⟨rfl,_,h5,HF.out.1.trans (Chg.ptr hg5),HF.out.2.1,HF.out.2.2⟩
theorem HAt.other{base:Nat}{w w':World}{p g c q:Nat}{l:List Ht}(h:HAt base w p g c l)(hg:w.grownBy w' (some q))(h1:p≠q)(h2:g≠q):HAt base w' p g c l:=
 ⟨h.1,(hg.block p h.lt (fun e=>h1 (by injection e))).trans h.2.1,h.2.2.kept hg (fun e=>h2 (by injection e))⟩
theorem Ziz(v:Value)(w:World):Sem.run Tryz.prog (Instr.typeAssert (.iface 66 v) 20 66 false) w=.ok v w:=by
 unfold Instr.typeAssert
 simp [go_sem]
theorem iNext(base p g c n:Nat)(l:List Ht)(w:World)(h:HAt base w p g c l)(hl:l.length=n+1)(hn:n<=1048575)(hh:ZbN l l.length):
 Calls Tryz.prog 257 #[.pointer (some ⟨p,0,none⟩)] w fun e w'=>e=.returned (.agg #[.int .i64 (Zr l 0).1,.int .i64 (Zr l 0).2])/\∃l',HAt base w' p g c l'/\Chg p g w w'/\(Zr l 0::l').Perm l/\ZbN l' l'.length:=by
 have hB:=(Below.refl w.heap.size w).alloc (Nat.le_refl _) (.cells #[.int .i64 0,.int .i64 0] 66)
 have HP:=Za (iHPop base p g c n l _ (h.below hB) hl hn hh)
 have HB:=Za (And.intro hB (And.intro h.lt h.2.2.lt.2))
 have hx:(w.alloc (.cells #[.int .i64 0,.int .i64 0] 66)).heap[w.heap.size]? =some (.cells #[.int .i64 0,.int .i64 0] 66 (0,0)):=by unfold World.alloc;simp only [Array.getElem?_push_size]
 have HX:=Za hx
 clear h hl hh hB hx
 go_enter Tryz.func257,Tryz.ntmps257
 go_wp2_with fail
 refine HP.out.mono ?_
 rintro e w2 ⟨rfl,l2,h2,hc2,hp2,hh2⟩
 have hb2:w2.heap[w.heap.size]? =some (.cells #[.int .i64 0,.int .i64 0] 66 (0,0)):=by
  obtain⟨_,h1,h3⟩:=HB.out
  rw [hc2.2.2.2.2 w.heap.size (by simp) (by omega) (by omega)]
  exact HX.out
 have hc0:w2.cell? ⟨w.heap.size,0,none⟩=some (.int .i64 0):=by simp [World.cell?,hb2]
 have hc1:w2.cell? ⟨w.heap.size,1,none⟩=some (.int .i64 0):=by simp [World.cell?,hb2]
 have hf0:w2.frozen? ⟨w.heap.size,0,none⟩=false:=by simp [World.frozen?,hb2]
 have hf1:w2.frozen? ⟨w.heap.size,1,none⟩=false:=by simp [World.frozen?,hb2]
 have HE:=Za (And.intro h2 (And.intro hc2 (And.intro hp2 hh2)))
 clear h2 hc2 hp2 hh2 hb2
 have TA:=Ziz (.agg #[.int .i64 (Zr l 0).1,.int .i64 (Zr l 0).2]) w2
 go_wp2
 have k0:((w2.setCell ⟨w.heap.size,0,none⟩ (.int .i64 (Zr l 0).1)).setCell ⟨w.heap.size,1,none⟩ (.int .i64 (Zr l 0).2)).cell? ⟨w.heap.size,0,none⟩=some (.int .i64 (Zr l 0).1):=by
  rw [Zba _ _ _ _ _ (by omega)]
  exact World.cell?_setCell_same _ _ _ hc0
 have k1:((w2.setCell ⟨w.heap.size,0,none⟩ (.int .i64 (Zr l 0).1)).setCell ⟨w.heap.size,1,none⟩ (.int .i64 (Zr l 0).2)).cell? ⟨w.heap.size,1,none⟩=some (.int .i64 (Zr l 0).2):=
  World.cell?_setCell_same _ _ _ (by rw [Zba _ _ _ _ _ (by omega)];exact hc1)
 have hg:w2.grownBy ((w2.setCell ⟨w.heap.size,0,none⟩ (.int .i64 (Zr l 0).1)).setCell ⟨w.heap.size,1,none⟩ (.int .i64 (Zr l 0).2)) (some w.heap.size):=Zau (Zau (ZI _ _))
 refine bodyPost_ret (v:=.agg #[.int .i64 (Zr l 0).1,.int .i64 (Zr l 0).2]) (by simp [results,Tryz.results257,go_sem,k0,k1]) rfl ?_
 obtain⟨h2,hc2,hp2,hh2⟩:=HE.out
 obtain⟨hB,hlp,hlg⟩:=HB.out
 exact⟨rfl,l2,h2.other hg (by omega) (by omega),((Chg.below hB).trans hc2).far hg (Nat.le_refl _),hp2,hh2⟩
end Go.Proofs.YtaaagmgglolibaaGreat
