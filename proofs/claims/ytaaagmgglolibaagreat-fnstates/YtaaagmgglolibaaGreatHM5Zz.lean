import Derived.Test.YtaaagmgglolibaaGreatHM1Zz
import Derived.Test.YtaaagmgglolibaaGreatArgsZz
set_option maxRecDepth 100000
set_option maxHeartbeats 4000000
namespace Go.Proofs.YtaaagmgglolibaaGreat
open Go Go.RowKit
def Zeg(hs:List Ht)(id:Int):Bool:=ZaK (hs.map Prod.fst) id
theorem ZlD{hs:List Ht}{id:Int}{k:Nat}(hk:k<hs.length)(h:(Zr hs k).1=id):Zeg hs id=true:=by
 unfold Zeg ZaK
 rw [List.contains_iff_mem,<-h]
 exact List.mem_map_of_mem (Zhf hk)
theorem ZmT{hs:List Ht}{id:Int}(h:∀j,j<hs.length->(Zr hs j).1≠id):Zeg hs id=false:=by
 rcases hb:Zeg hs id with _ | _
 · rfl
 · unfold Zeg ZaK at hb
   rw [List.contains_iff_mem,List.mem_map] at hb
   obtain⟨x,hx,e⟩:=hb
   obtain⟨j,hj,e2⟩:=List.getElem_of_mem hx
   exact absurd (by rw [<-e,<-e2];simp [Zr,List.getD,hj]) (h j hj)
theorem iHas1(q:Nat)(id:Int)(a:Ht)(w:World)(hq:q<w.heap.size)(hc:w.cell? ⟨q,0,none⟩=some (.int .i64 id)):
 Calls Tryz.prog 291 #[.agg #[.int .i64 a.1,.int .i64 a.2],.pointer (some ⟨q,0,none⟩)] w fun e w'=>e=.returned (.bool (a.1 ==id))/\Below w.heap.size w w':=by
 have hB:=(Below.refl w.heap.size w).alloc (Nat.le_refl _) (.cells #[.int .i64 a.1,.int .i64 a.2] 66)
 have hc2:(w.alloc (.cells #[.int .i64 a.1,.int .i64 a.2] 66)).cell? ⟨q,0,none⟩=some (.int .i64 id):=(hB.cell (p:=⟨q,0,none⟩) hq).trans hc
 go_enter Tryz.func291,Tryz.ntmps291
 go_wp2
 go_ret
 exact⟨rfl,hB⟩
theorem Zod(ao:Option Addr)(cap q:Nat)(id:Int)(hs:List Ht)(w:World)(hv:Za3 w ao hs)(hn:hs.length<=1048576)(hq:q<w.heap.size)(hc:w.cell? ⟨q,0,none⟩=some (.int .i64 id)):
 Calls Tryz.prog 309 #[.slice ao hs.length cap,.func (.func 291) #[] #[.pointer (some ⟨q,0,none⟩)]] w fun e w'=>(∃r:Int,e=.returned (.int .i64 r)/\(0<=r↔Zeg hs id=true))/\Below w.heap.size w w':=by
 go_enter Tryz.func309,Tryz.ntmps309
 go_wp2
 go_loopw [8] (fun i wr=>∃k:Nat,k<=hs.length/\i=.int .i64 k/\(∀j,j<k->(Zr hs j).1≠id)/\Below w.heap.size w wr) (fun i _=>hs.length-(intOf i).toNat)
 case atStart=>exact⟨0,Nat.zero_le _,rfl,fun j hj=>by omega,Below.refl _ _⟩
 case round=>
  obtain⟨k,hk,rfl,hno,hb⟩:=hrel
  have HN:=Za hno
  have HB:=Za hb
  by_cases hlt:k<hs.length
  · obtain⟨b,off,rfl,hbw,hseg⟩:=hv.seg (by omega)
    obtain⟨hc0,hc1⟩:=hseg.below hbw hb k hlt
    have HC:=Za (iHas1 q id (Zr hs k) wr (Nat.lt_of_lt_of_le hq hb.size) ((hb.cell (p:=⟨q,0,none⟩) hq).trans hc))
    clear hno hb hseg
    go_wp2_with fail
    refine HC.out.mono ?_
    rintro e w2 ⟨rfl,hb2⟩
    have HB2:=Za (Zd HB.out hb2)
    clear hb2
    by_cases he:(Zr hs k).1=id
    · have he2:((Zr hs k).1 ==id)=true:=by simp [he]
      have HY:=Za (ZlD hlt he)
      rw [he2]
      clear he he2
      go_wp2
      go_ret
      exact⟨⟨k,rfl,fun _=>HY.out,fun _=>by omega⟩,HB2.out⟩
    · have he2:((Zr hs k).1 ==id)=false:=by simp [he]
      have HX:=Za he
      rw [he2]
      clear he he2
      go_wp2
      go_roundw
      case rel=>exact⟨k+1,by omega,by go_num,fun j hj=>by
       rcases Nat.lt_or_ge j k with h | h
       · exact HN.out j h
       · rw [show j=k by omega];exact HX.out,HB2.out⟩
      case measure=>simp [intOf];omega
  · clear hno hb
    go_wp2
    go_ret
    exact⟨⟨-1,rfl,fun h=>by omega,fun h=>by rw [ZmT (fun j hj=>HN.out j (by omega))] at h;cases h⟩,HB.out⟩
theorem Zj9(ao:Option Addr)(cap q:Nat)(id:Int)(hs:List Ht)(w:World)(hv:Za3 w ao hs)(hn:hs.length<=1048576)(hq:q<w.heap.size)(hc:w.cell? ⟨q,0,none⟩=some (.int .i64 id)):
 Calls Tryz.prog 290 #[.slice ao hs.length cap,.func (.func 291) #[] #[.pointer (some ⟨q,0,none⟩)]] w fun e w'=>e=.returned (.bool (Zeg hs id))/\Below w.heap.size w w':=by
 have HC:=Za (Zod ao cap q id hs w hv hn hq hc)
 clear hv hc
 go_enter Tryz.func290,Tryz.ntmps290
 go_wp2_with fail
 refine HC.out.mono ?_
 rintro e w2 ⟨⟨r,rfl,hr⟩,hb⟩
 go_wp2
 go_ret
 exact⟨Zg (by simp),hb⟩
theorem Zoe(ao:Option Addr)(cap:Nat)(id:Int)(hs:List Ht)(w:World)(hv:Za3 w ao hs)(hn:hs.length<=1048576):
 Calls Tryz.prog 258 #[.slice ao hs.length cap,.int .i64 id] w fun e w'=>e=.returned (.bool (Zeg hs id))/\Below w.heap.size w w':=by
 have hB:=(Below.refl w.heap.size w).alloc (Nat.le_refl _) (.cells #[.int .i64 id] 2)
 have HC:=Za (Zj9 ao cap w.heap.size id hs (w.alloc (.cells #[.int .i64 id] 2)) (hv.next hB) hn (by simp) (by simp))
 have HB:=Za hB
 clear hv hB
 go_enter Tryz.func258,Tryz.ntmps258
 go_wp2_with fail
 refine HC.out.mono ?_
 rintro e w2 ⟨rfl,hb⟩
 go_wp2
 go_ret
 exact⟨rfl,Zd HB.out hb⟩
theorem ZlE{l:List Ht}(h:ZbN l l.length):∀y∈l,leH (Zr l 0) y:=fun y hy=>by
 obtain⟨j,hj,e⟩:=List.getElem_of_mem hy
 have:=ZiA h j hj
 rw [show Zr l j=y by rw [<-e];simp [Zr,List.getD,hj]] at this
 exact this
theorem ZiB{x:Ht}{l l':List Ht}(hp:(x::l').Perm l)(hm:∀y∈l,leH x y):ZU l=x::ZU l':=by
 refine (ZgH (List.pairwise_cons.2 ⟨fun y hy=>hm y (hp.mem_iff.1 (List.mem_cons_of_mem _ ((Zao l').mem_iff.1 hy))),Zbp l'⟩) ?_).symm
 exact (List.Perm.cons x (Zao l')).trans hp
theorem Zka:ZU []=[]:=rfl
theorem ZiC{T l l':List Ht}{x:Ht}{all:List Ht}(he:T++Zcr (T.map Prod.fst) (ZU l)=all)(hs:ZU l=x::ZU l')(hx:Zeg T x.1=true):T++Zcr (T.map Prod.fst) (ZU l')=all:=by
 rw [<-he,hs]
 unfold Zeg at hx
 simp [Zcr,hx]
theorem ZiD{T l l':List Ht}{x:Ht}{all:List Ht}(he:T++Zcr (T.map Prod.fst) (ZU l)=all)(hs:ZU l=x::ZU l')(hx:Zeg T x.1=false):(T++[x])++Zcr ((T++[x]).map Prod.fst) (ZU l')=all:=by
 rw [<-he,hs]
 unfold Zeg at hx
 simp [Zcr,hx]
theorem Chg.hrow{p g base t c:Nat}{w w':World}{T:List Ht}(h:Chg p g w w')(hr:ZN base w t c T)(h1:t≠p)(h2:t≠g):ZN base w' t c T:=by
 have hl:=hr.lt.2
 have hb:=h.2.2.2.2 t hl h1 h2
 obtain⟨k1,k2 | ⟨g',c',cur,e,h3,h4,h5⟩⟩:=hr
 · exact⟨k1,Or.inl k2⟩
 · refine⟨k1,Or.inr ⟨g',c',cur,e,h3,?_,h5⟩⟩
   injection e with e1 e2 e3
   have:g'=t:=by simp at e1;omega
   subst this
   rw [hb];exact h4
def ZlF(p:Nat)(w:World):Nat:=match w.cell? ⟨p,0,none⟩ with
 | some (.slice _ n _)=>n
 | _=>0
theorem HAt.len{base:Nat}{w:World}{p g c:Nat}{l:List Ht}(h:HAt base w p g c l):ZlF p w=l.length:=by unfold ZlF;rw [h.cell]
def Zfl(base:Nat)(w wr:World)(p g c t ct:Nat)(l T:List Ht):Prop:=HAt base wr p g c l/\ZbN l l.length/\ZN w.heap.size wr t ct T/\Chg p g w wr/\p<w.heap.size/\g<w.heap.size
theorem Zof(base p g c:Nat)(k:Int)(l:List Ht)(w:World)(h:HAt base w p g c l)(hl:l.length<=1048576)(hh:ZbN l l.length)(hk:0<=k):
 Calls Tryz.prog 217 #[.pointer (some ⟨p,0,none⟩),.int .i64 k] w fun e w'=>∃t ct,e=.returned (.slice (some ⟨t,0,none⟩) ((Zhy (ZU l)).take k.toNat).length ct)/\ZN w.heap.size w' t ct ((Zhy (ZU l)).take k.toNat)/\Chg p g w w':=by
 obtain⟨j0,hj0,hy0,hy1,hy2⟩:=info_parts Tryz.info66
 have hB:=(Below.refl w.heap.size w).alloc (Nat.le_refl _) (.cells #[] 66)
 have HT:Hid (Zfl base w (w.alloc (.cells #[] 66)) p g c w.heap.size 0 l []):=⟨h.below hB,hh,ZN.start w _ (Nat.le_refl _),Chg.below hB,h.lt,h.2.2.lt.2⟩
 obtain⟨all,hall⟩:∃all,all=Zhy (ZU l):=⟨_,rfl⟩
 have HA:=Za hall
 rw [<-hall]
 clear h hh hB hall
 go_enter Tryz.func217,Tryz.ntmps217
 go_wp2
 go_loopw [5] (fun v wr=>∃(l' T:List Ht) (t ct:Nat),v=.slice (some ⟨t,0,none⟩) T.length ct/\Zfl base w wr p g c t ct l' T/\T++Zcr (T.map Prod.fst) (ZU l')=all/\(T.length:Int)<=k/\T.length+l'.length<=l.length) (fun _ wr=>ZlF p wr)
 case atStart=>exact⟨l,[],w.heap.size,0,rfl,HT.out,by rw [HA.out];rfl,by simpa using hk,by simp⟩
 case round=>
  clear HT
  obtain⟨l',T,t,ct,rfl,hT,hE,hTk,hTl⟩:=hrel
  have HS:=Za hT
  have HE:=Za hE
  have hcp:=hT.1.cell
  have HLn:=Za (iLen (some ⟨g,0,none⟩) l'.length c wr)
  clear hT hE
  by_cases h0:l'=[]
  · subst h0
    go_wp2_with fail
    refine HLn.out.mono ?_
    rintro e w1 ⟨rfl,rfl⟩
    go_wp2
    go_ret
    have e1:all.take k.toNat=T:=by rw [<-HE.out,Zka];simp only [Zcr,List.append_nil];exact List.take_of_length_le (by omega)
    rw [e1]
    exact⟨t,ct,rfl,HS.out.2.2.1,HS.out.2.2.2.1⟩
  · obtain⟨n,hn⟩:∃n,l'.length=n+1:=⟨l'.length-1,by have:0<l'.length:=List.length_pos_iff.2 h0;omega⟩
    have hgt:(l'.length:Int) > 0:=by omega
    by_cases hlt:(T.length:Int)<k
    · have HN:=Za (iNext base p g c n l' wr HS.out.1 hn (by omega) HS.out.2.1)
      have HM:=Za (ZlE HS.out.2.1)
      have HH:=Za hn
      clear hn h0
      obtain⟨x,hx⟩:∃x,x=Zr l' 0:=⟨_,rfl⟩
      rw [<-hx] at HN HM
      clear hx
      go_wp2_with fail
      refine HLn.out.mono ?_
      rintro e w1 ⟨rfl,rfl⟩
      clear HLn
      go_wp2_with fail
      refine HN.out.mono ?_
      rintro e w2 ⟨rfl,l2,h2,hc2,hp2,hh2⟩
      obtain⟨h1,hh1,hr1,hc1,hpl,hgl⟩:=HS.out
      have htl:=hr1.lt
      have hB2:=(Below.refl w2.heap.size w2).alloc (Nat.le_refl _) (.cells #[.int .i64 x.1,.int .i64 x.2] 66)
      have hr2:=(hc2.hrow hr1 (by omega) (by omega)).below (Nat.le_refl _) hB2
      have HI:=Za (Zoe (some ⟨t,0,none⟩) ct x.1 T _ hr2.view (by omega))
      have hl2:l2.length+1=l'.length:=by rw [<-hp2.length_eq];rfl
      have HS2:Hid (Zfl base w (w2.alloc (.cells #[.int .i64 x.1,.int .i64 x.2] 66)) p g c t ct l2 T/\ZU l'=x::ZU l2):=⟨⟨h2.below hB2,hh2,hr2,(hc1.trans hc2).trans (Chg.below hB2),hpl,hgl⟩,ZiB hp2 HM.out⟩
      have hcx0:(w2.alloc (.cells #[.int .i64 x.1,.int .i64 x.2] 66)).cell? ⟨w2.heap.size,0,none⟩=some (.int .i64 x.1):=by simp
      have hcx1:(w2.alloc (.cells #[.int .i64 x.1,.int .i64 x.2] 66)).cell? ⟨w2.heap.size,1,none⟩=some (.int .i64 x.2):=by simp
      have HCX:=Za (And.intro hcx0 hcx1)
      have HLT:=Za (And.intro hl2 HS.out.1.len)
      clear h1 hh1 hr1 hc1 h2 hc2 hp2 hh2 hr2 hB2 HM HS HN hcx0 hcx1 hl2 hcp htl
      go_wp2_with fail
      refine HI.out.mono ?_
      rintro e w3 ⟨rfl,hb3⟩
      have hcx0:=(hb3.cell (p:=⟨w2.heap.size,0,none⟩) (by simp)).trans HCX.out.1
      have hcx1:=(hb3.cell (p:=⟨w2.heap.size,1,none⟩) (by simp)).trans HCX.out.2
      obtain⟨⟨h1,hh1,hr1,hc1,_,_⟩,hso⟩:=HS2.out
      have HS3:Hid (Zfl base w w3 p g c t ct l2 T):=⟨h1.below hb3,hh1,hr1.below (Nat.le_refl _) hb3,hc1.trans (Chg.below hb3),hpl,hgl⟩
      have HSO:=Za hso
      clear h1 hh1 hr1 hc1 hso HS2 HCX hb3 HI
      rcases hf:Zeg T x.1 with _ | _
      · have HF:=Za (ZiD HE.out HSO.out hf)
        obtain⟨h1,hh1,hr1,hc1,_,_⟩:=HS3.out
        have LA:=World.grownBy_alloc w3 (.cells #[.int .i64 x.1,.int .i64 x.2] 66) none
        have hB3:=(Below.refl w3.heap.size w3).alloc (Nat.le_refl _) (.cells #[.int .i64 x.1,.int .i64 x.2] 66)
        have hr4:=hr1.kept LA (by simp)
        have htl:=hr1.lt
        have HS4:Hid (Zfl base w (w3.alloc (.cells #[.int .i64 x.1,.int .i64 x.2] 66)) p g c t ct l2 T):=⟨h1.below hB3,hh1,hr4,hc1.trans (Chg.below hB3),hpl,hgl⟩
        have hz:=hc1.2.2.2.1
        have HZ:=Za htl
        clear h1 hh1 hr1 hc1 LA hB3 hr4 htl HS3
        go_wp2_with (at_builtin;refine Zx _ rfl (.tmp 26) (.tmp 28) 36 rfl w.heap.size 66 j0 _ 2 16 Tryz.underlying36 hj0 hy0 hy1 hy2 rfl (by omega) t T.length ct (Zm T) rfl HS4.out.2.2.1 (some ⟨w3.heap.size,0,none⟩) 1 1 (Zm [x]) rfl (ZbV (heap_alloc_new w3 _)) (by unfold maxLen;omega) (by omega) (by simp;omega) (w3.heap.size+1) (by simp) ?_;intro gg cc w4 hown hgrow hat hltt)
        go_wp2
        obtain⟨h1,hh1,hr1,hc1,_,_⟩:=HS4.out
        have ht0:=HZ.out
        have hA4:=h1.other hgrow (show p≠t by omega) (show g≠t by omega)
        have hlen:=HLT.out
        go_roundw
        case rel=>exact⟨l2,T++[x],gg,cc,by rw [List.length_append,List.length_singleton],⟨hA4,hh1,ZN.snoc hown,hc1.far hgrow ht0.1,hpl,hgl⟩,HF.out,by rw [List.length_append,List.length_singleton];omega,by rw [List.length_append,List.length_singleton];omega⟩
        case measure=>rw [hA4.len,hlen.2];omega
      · have HF:=Za (ZiC HE.out HSO.out hf)
        go_wp2
        have hlen:=HLT.out
        go_roundw
        case rel=>exact⟨l2,T,t,ct,rfl,HS3.out,HF.out,hTk,by omega⟩
        case measure=>rw [HS3.out.1.len,hlen.2];omega
    · have hd:¬((T.length:Int)<k):=hlt
      clear hn h0
      go_wp2_with fail
      refine HLn.out.mono ?_
      rintro e w1 ⟨rfl,rfl⟩
      go_wp2
      go_ret
      have e1:all.take k.toNat=T:=by rw [<-HE.out];exact List.take_left' (by omega)
      rw [e1]
      exact⟨t,ct,rfl,HS.out.2.2.1,HS.out.2.2.2.1⟩
end Go.Proofs.YtaaagmgglolibaaGreat
