import Derived.Test.YtilkaeclgmcolaaGreatHM1Zz
import Derived.Test.YtilkaeclgmcolaaGreatArgsZz
set_option maxRecDepth 100000
set_option maxHeartbeats 4000000
namespace Go.Proofs.YtilkaeclgmcolaaGreat
open Go Go.RowKit
def Zev(hs:List Ht)(id:Int):Bool:=ZaI (hs.map Prod.fst) id
theorem ZmG{hs:List Ht}{id:Int}{k:Nat}(hk:k<hs.length)(h:(Zx hs k).1=id):Zev hs id=true:=by
 unfold Zev ZaI
 rw [List.contains_iff_mem,<-h]
 exact List.mem_map_of_mem (ZhS hk)
theorem Zn6{hs:List Ht}{id:Int}(h:∀j,j<hs.length->(Zx hs j).1≠id):Zev hs id=false:=by
 rcases hb:Zev hs id with _ | _
 · rfl
 · unfold Zev ZaI at hb
   rw [List.contains_iff_mem,List.mem_map] at hb
   obtain⟨x,b,e⟩:=hb
   obtain⟨j,a,c⟩:=List.getElem_of_mem b
   exact absurd (by rw [<-e,<-c];simp [Zx,List.getD,a]) (h j a)
theorem iHas1(q:Nat)(id:Int)(a:Ht)(w:World)(hq:q<w.heap.size)(hc:w.cell? ⟨q,0,none⟩=some (.int .i64 id)):
 Calls Tryz.prog 249 #[.agg #[.int .i64 a.1,.int .i64 a.2],.pointer (some ⟨q,0,none⟩)] w fun e w'=>e=.returned (.bool (a.1 ==id))/\Below w.heap.size w w':=by
 have b:=(Below.refl w.heap.size w).alloc (Nat.le_refl _) (.cells #[.int .i64 a.1,.int .i64 a.2] 227)
 have c:(w.alloc (.cells #[.int .i64 a.1,.int .i64 a.2] 227)).cell? ⟨q,0,none⟩=some (.int .i64 id):=(b.cell (p:=⟨q,0,none⟩) hq).trans hc
 go_enter Tryz.func249,Tryz.ntmps249
 go_wp2
 go_ret
 exact⟨rfl,b⟩
theorem Zpn(ao:Option Addr)(cap q:Nat)(id:Int)(hs:List Ht)(w:World)(hv:Za7 w ao hs)(hn:hs.length<=1048576)(hq:q<w.heap.size)(hc:w.cell? ⟨q,0,none⟩=some (.int .i64 id)):
 Calls Tryz.prog 264 #[.slice ao hs.length cap,.func (.func 249) #[] #[.pointer (some ⟨q,0,none⟩)]] w fun e w'=>(∃r:Int,e=.returned (.int .i64 r)/\(0<=r↔Zev hs id=true))/\Below w.heap.size w w':=by
 go_enter Tryz.func264,Tryz.ntmps264
 go_wp2
 go_loopw [8] (fun i wr=>∃k:Nat,k<=hs.length/\i=.int .i64 k/\(∀j,j<k->(Zx hs j).1≠id)/\Below w.heap.size w wr) (fun i _=>hs.length-(intOf i).toNat)
 case atStart=>exact⟨0,Nat.zero_le _,rfl,fun j o=>by omega,Below.refl _ _⟩
 case round=>
  obtain⟨k,B,rfl,d,f⟩:=hrel
  have n:=Za d
  have s:=Za f
  by_cases hlt:k<hs.length
  · obtain⟨b,u,rfl,m,c⟩:=hv.seg (by omega)
    obtain⟨y,v⟩:=c.below m f k hlt
    have t:=Za (iHas1 q id (Zx hs k) wr (Nat.lt_of_lt_of_le hq f.size) ((f.cell (p:=⟨q,0,none⟩) hq).trans hc))
    clear d f c
    go_wp2_with fail
    refine t.out.mono ?_
    rintro e A ⟨rfl,l⟩
    have g:=Za (Zb s.out l)
    clear l
    by_cases he:(Zx hs k).1=id
    · have a:((Zx hs k).1 ==id)=true:=by simp [he]
      have z:=Za (ZmG hlt he)
      rw [a]
      clear he a
      go_wp2
      go_ret
      exact⟨⟨k,rfl,fun _=>z.out,fun _=>by omega⟩,g.out⟩
    · have a:((Zx hs k).1 ==id)=false:=by simp [he]
      have x:=Za he
      rw [a]
      clear he a
      go_wp2
      go_roundw
      case rel=>exact⟨k+1,by omega,by go_num,fun j o=>by
       rcases Nat.lt_or_ge j k with h | h
       · exact n.out j h
       · rw [show j=k by omega];exact x.out,g.out⟩
      case measure=>simp [intOf];omega
  · clear d f
    go_wp2
    go_ret
    exact⟨⟨-1,rfl,fun h=>by omega,fun h=>by rw [Zn6 (fun j o=>n.out j (by omega))] at h;cases h⟩,s.out⟩
theorem Zk0(ao:Option Addr)(cap q:Nat)(id:Int)(hs:List Ht)(w:World)(hv:Za7 w ao hs)(hn:hs.length<=1048576)(hq:q<w.heap.size)(hc:w.cell? ⟨q,0,none⟩=some (.int .i64 id)):
 Calls Tryz.prog 248 #[.slice ao hs.length cap,.func (.func 249) #[] #[.pointer (some ⟨q,0,none⟩)]] w fun e w'=>e=.returned (.bool (Zev hs id))/\Below w.heap.size w w':=by
 have b:=Za (Zpn ao cap q id hs w hv hn hq hc)
 clear hv hc
 go_enter Tryz.func248,Tryz.ntmps248
 go_wp2_with fail
 refine b.out.mono ?_
 rintro e c ⟨⟨r,rfl,d⟩,a⟩
 go_wp2
 go_ret
 exact⟨Zd (by simp),a⟩
theorem Zpo(ao:Option Addr)(cap:Nat)(id:Int)(hs:List Ht)(w:World)(hv:Za7 w ao hs)(hn:hs.length<=1048576):
 Calls Tryz.prog 232 #[.slice ao hs.length cap,.int .i64 id] w fun e w'=>e=.returned (.bool (Zev hs id))/\Below w.heap.size w w':=by
 have a:=(Below.refl w.heap.size w).alloc (Nat.le_refl _) (.cells #[.int .i64 id] 2)
 have d:=Za (Zk0 ao cap w.heap.size id hs (w.alloc (.cells #[.int .i64 id] 2)) (hv.next a) hn (by simp) (by simp))
 have c:=Za a
 clear hv a
 go_enter Tryz.func232,Tryz.ntmps232
 go_wp2_with fail
 refine d.out.mono ?_
 rintro e f ⟨rfl,b⟩
 go_wp2
 go_ret
 exact⟨rfl,Zb c.out b⟩
theorem ZmH{l:List Ht}(h:ZbQ l l.length):∀y∈l,leH (Zx l 0) y:=fun y hy=>by
 obtain⟨j,hj,e⟩:=List.getElem_of_mem hy
 have:=Zjn h j hj
 rw [show Zx l j=y by rw [<-e];simp [Zx,List.getD,hj]] at this
 exact this
theorem Zjo{x:Ht}{l l':List Ht}(hp:(x::l').Perm l)(hm:∀y∈l,leH x y):Z4 l=x::Z4 l':=by
 refine (Zhf (List.pairwise_cons.2 ⟨fun y a=>hm y (hp.mem_iff.1 (List.mem_cons_of_mem _ ((ZaN l').mem_iff.1 a))),Zb4 l'⟩) ?_).symm
 exact (List.Perm.cons x (ZaN l')).trans hp
theorem Zk1:Z4 []=[]:=rfl
theorem Zjp{T l l':List Ht}{x:Ht}{all:List Ht}(he:T++ZcD (T.map Prod.fst) (Z4 l)=all)(hs:Z4 l=x::Z4 l')(hx:Zev T x.1=true):T++ZcD (T.map Prod.fst) (Z4 l')=all:=by
 rw [<-he,hs]
 unfold Zev at hx
 simp [ZcD,hx]
theorem Zjq{T l l':List Ht}{x:Ht}{all:List Ht}(he:T++ZcD (T.map Prod.fst) (Z4 l)=all)(hs:Z4 l=x::Z4 l')(hx:Zev T x.1=false):(T++[x])++ZcD ((T++[x]).map Prod.fst) (Z4 l')=all:=by
 rw [<-he,hs]
 unfold Zev at hx
 simp [ZcD,hx]
theorem Chg.hrow{p g base t c:Nat}{w w':World}{T:List Ht}(h:Chg p g w w')(hr:ZT base w t c T)(h1:t≠p)(h2:t≠g):ZT base w' t c T:=by
 have j:=hr.lt.2
 have f:=h.2.2.2.2 t j h1 h2
 obtain⟨d,k | ⟨b,i,a,e,m,l,n⟩⟩:=hr
 · exact⟨d,Or.inl k⟩
 · refine⟨d,Or.inr ⟨b,i,a,e,m,?_,n⟩⟩
   injection e with e1 e2 e3
   have:b=t:=by simp at e1;omega
   subst this
   rw [f];exact l
def ZmI(p:Nat)(w:World):Nat:=match w.cell? ⟨p,0,none⟩ with
 | some (.slice _ n _)=>n
 | _=>0
theorem HAt.len{base:Nat}{w:World}{p g c:Nat}{l:List Ht}(h:HAt base w p g c l):ZmI p w=l.length:=by unfold ZmI;rw [h.cell]
def ZfQ(base:Nat)(w wr:World)(p g c t ct:Nat)(l T:List Ht):Prop:=HAt base wr p g c l/\ZbQ l l.length/\ZT w.heap.size wr t ct T/\Chg p g w wr/\p<w.heap.size/\g<w.heap.size
theorem Zpp(base p g c:Nat)(k:Int)(l:List Ht)(w:World)(h:HAt base w p g c l)(hl:l.length<=1048576)(hh:ZbQ l l.length)(hk:0<=k):
 Calls Tryz.prog 215 #[.pointer (some ⟨p,0,none⟩),.int .i64 k] w fun e w'=>∃t ct,e=.returned (.slice (some ⟨t,0,none⟩) ((Zih (Z4 l)).take k.toNat).length ct)/\ZT w.heap.size w' t ct ((Zih (Z4 l)).take k.toNat)/\Chg p g w w':=by
 obtain⟨j0,a7,a6,a8,a0⟩:=info_parts Tryz.info227
 have hB:=(Below.refl w.heap.size w).alloc (Nat.le_refl _) (.cells #[] 227)
 have HT:Hid (ZfQ base w (w.alloc (.cells #[] 227)) p g c w.heap.size 0 l []):=⟨h.below hB,hh,ZT.start w _ (Nat.le_refl _),Chg.below hB,h.lt,h.2.2.lt.2⟩
 obtain⟨all,r⟩:∃all,all=Zih (Z4 l):=⟨_,rfl⟩
 have HA:=Za r
 rw [<-r]
 clear h hh hB r
 go_enter Tryz.func215,Tryz.ntmps215
 go_wp2
 go_loopw [5] (fun v wr=>∃(f T:List Ht) (t ct:Nat),v=.slice (some ⟨t,0,none⟩) T.length ct/\ZfQ base w wr p g c t ct f T/\T++ZcD (T.map Prod.fst) (Z4 f)=all/\(T.length:Int)<=k/\T.length+f.length<=l.length) (fun _ wr=>ZmI p wr)
 case atStart=>exact⟨l,[],w.heap.size,0,rfl,HT.out,by rw [HA.out];rfl,by simpa using hk,by simp⟩
 case round=>
  clear HT
  obtain⟨f,T,t,ct,rfl,Z,hE,a1,ar⟩:=hrel
  have s:=Za Z
  have Y:=Za hE
  have a9:=Z.1.cell
  have z:=Za (iLen (some ⟨g,0,none⟩) f.length c wr)
  clear Z hE
  by_cases h0:f=[]
  · subst h0
    go_wp2_with fail
    refine z.out.mono ?_
    rintro e w1 ⟨rfl,rfl⟩
    go_wp2
    go_ret
    have e1:all.take k.toNat=T:=by rw [<-Y.out,Zk1];simp only [ZcD,List.append_nil];exact List.take_of_length_le (by omega)
    rw [e1]
    exact⟨t,ct,rfl,s.out.2.2.1,s.out.2.2.2.1⟩
  · obtain⟨n,X⟩:∃n,f.length=n+1:=⟨f.length-1,by have:0<f.length:=List.length_pos_iff.2 h0;omega⟩
    have ak:(f.length:Int) > 0:=by omega
    by_cases hlt:(T.length:Int)<k
    · have HN:=Za (iNext base p g c n f wr s.out.1 X (by omega) s.out.2.1)
      have HM:=Za (ZmH s.out.2.1)
      have HH:=Za X
      clear X h0
      obtain⟨x,hx⟩:∃x,x=Zx f 0:=⟨_,rfl⟩
      rw [<-hx] at HN HM
      clear hx
      go_wp2_with fail
      refine z.out.mono ?_
      rintro e w1 ⟨rfl,rfl⟩
      clear z
      go_wp2_with fail
      refine HN.out.mono ?_
      rintro e B ⟨rfl,H,h2,G,L,W⟩
      obtain⟨C,d,b,a,E,A⟩:=s.out
      have u:=b.lt
      have y:=(Below.refl B.heap.size B).alloc (Nat.le_refl _) (.cells #[.int .i64 x.1,.int .i64 x.2] 227)
      have K:=(G.hrow b (by omega) (by omega)).below (Nat.le_refl _) y
      have HI:=Za (Zpo (some ⟨t,0,none⟩) ct x.1 T _ K.view (by omega))
      have O:H.length+1=f.length:=by rw [<-L.length_eq];rfl
      have M:Hid (ZfQ base w (B.alloc (.cells #[.int .i64 x.1,.int .i64 x.2] 227)) p g c t ct H T/\Z4 f=x::Z4 H):=⟨⟨h2.below y,W,K,(a.trans G).trans (Chg.below y),E,A⟩,Zjo L HM.out⟩
      have q:(B.alloc (.cells #[.int .i64 x.1,.int .i64 x.2] 227)).cell? ⟨B.heap.size,0,none⟩=some (.int .i64 x.1):=by simp
      have j:(B.alloc (.cells #[.int .i64 x.1,.int .i64 x.2] 227)).cell? ⟨B.heap.size,1,none⟩=some (.int .i64 x.2):=by simp
      have J:=Za (And.intro q j)
      have S:=Za (And.intro O s.out.1.len)
      clear C d b a h2 G L W K y HM s HN q j O a9 u
      go_wp2_with fail
      refine HI.out.mono ?_
      rintro e F ⟨rfl,i⟩
      have q:=(i.cell (p:=⟨B.heap.size,0,none⟩) (by simp)).trans J.out.1
      have j:=(i.cell (p:=⟨B.heap.size,1,none⟩) (by simp)).trans J.out.2
      obtain⟨⟨C,d,b,a,_,_⟩,N⟩:=M.out
      have D:Hid (ZfQ base w F p g c t ct H T):=⟨C.below i,d,b.below (Nat.le_refl _) i,a.trans (Chg.below i),E,A⟩
      have V:=Za N
      clear C d b a N M J i HI
      rcases hf:Zev T x.1 with _ | _
      · have HF:=Za (Zjq Y.out V.out hf)
        obtain⟨C,d,b,a,_,_⟩:=D.out
        have LA:=World.grownBy_alloc F (.cells #[.int .i64 x.1,.int .i64 x.2] 227) none
        have I:=(Below.refl F.heap.size F).alloc (Nat.le_refl _) (.cells #[.int .i64 x.1,.int .i64 x.2] 227)
        have U:=b.kept LA (by simp)
        have u:=b.lt
        have R:Hid (ZfQ base w (F.alloc (.cells #[.int .i64 x.1,.int .i64 x.2] 227)) p g c t ct H T):=⟨C.below I,d,U,a.trans (Chg.below I),E,A⟩
        have hz:=a.2.2.2.1
        have HZ:=Za u
        clear C d b a LA I U u D
        go_wp2_with (at_builtin;refine Zw _ rfl (.tmp 26) (.tmp 28) 223 rfl w.heap.size 227 j0 _ 2 16 Tryz.underlying223 a7 a6 a8 a0 rfl (by omega) t T.length ct (Zn T) rfl R.out.2.2.1 (some ⟨F.heap.size,0,none⟩) 1 1 (Zn [x]) rfl (Zb5 (heap_alloc_new F _)) (by unfold maxLen;omega) (by omega) (by simp;omega) (F.heap.size+1) (by simp) ?_;intro gg cc w4 P m ap ag)
        go_wp2
        obtain⟨C,d,b,a,_,_⟩:=R.out
        have a5:=HZ.out
        have Q:=C.other m (show p≠t by omega) (show g≠t by omega)
        have o:=S.out
        go_roundw
        case rel=>exact⟨H,T++[x],gg,cc,by rw [List.length_append,List.length_singleton],⟨Q,d,ZT.snoc P,a.far m a5.1,E,A⟩,HF.out,by rw [List.length_append,List.length_singleton];omega,by rw [List.length_append,List.length_singleton];omega⟩
        case measure=>rw [Q.len,o.2];omega
      · have HF:=Za (Zjp Y.out V.out hf)
        go_wp2
        have o:=S.out
        go_roundw
        case rel=>exact⟨H,T,t,ct,rfl,D.out,HF.out,a1,by omega⟩
        case measure=>rw [D.out.1.len,o.2];omega
    · have hd:¬((T.length:Int)<k):=hlt
      clear X h0
      go_wp2_with fail
      refine z.out.mono ?_
      rintro e w1 ⟨rfl,rfl⟩
      go_wp2
      go_ret
      have e1:all.take k.toNat=T:=by rw [<-Y.out];exact List.take_left' (by omega)
      rw [e1]
      exact⟨t,ct,rfl,s.out.2.2.1,s.out.2.2.2.1⟩
end Go.Proofs.YtilkaeclgmcolaaGreat
