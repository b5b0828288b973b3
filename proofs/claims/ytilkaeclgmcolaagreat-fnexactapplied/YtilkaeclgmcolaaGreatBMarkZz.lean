import Derived.Test.YtilkaeclgmcolaaGreatBCopyZz
import Derived.Test.YtilkaeclgmcolaaGreatMovedSZz
import Derived.Test.YtilkaeclgmcolaaGreatMRowZz
import Derived.Test.YtilkaeclgmcolaaGreatAppendZz
import Derived.Test.YtilkaeclgmcolaaGreatMathZz
set_option maxRecDepth 100000
set_option maxHeartbeats 4000000
namespace Go.Proofs.YtilkaeclgmcolaaGreat
open Go Go.RowKit
def ZQ(base:Nat)(w:World)(g c:Nat)(xs:List Int):Prop:=w.ownsRow base 2 1 (.slice (some ⟨g,0,none⟩) xs.length c) xs.length (xs.map (Value.int .i64))
theorem ZQ.lt{base:Nat}{w:World}{g c:Nat}{xs:List Int}(h:ZQ base w g c xs):base<=g/\g<w.heap.size:=World.ownsRow.lt h g rfl
theorem ZQ.seg{base:Nat}{w:World}{g c:Nat}{xs:List Int}(h:ZQ base w g c xs):Seg w g 0 xs:=fun i hi=>by
 rw [Nat.zero_add,World.ownsRow.cellAt h i (by omega)]
 simp [nth,List.getD,hi]
theorem ZQ.view{base:Nat}{w:World}{g c:Nat}{xs:List Int}(h:ZQ base w g c xs):Zy w (some ⟨g,0,none⟩) xs:=Or.inr ⟨g,0,rfl,h.lt.2,h.seg⟩
theorem ZQ.kept{base:Nat}{w w':World}{g c:Nat}{r:Option Nat}{xs:List Int}(h:ZQ base w g c xs)(hg:w.grownBy w' r)(hr:some g≠r):ZQ base w' g c xs:=World.ownsRow.kept h hg (Or.inr hr)
theorem ZQ.below{base:Nat}{w w':World}{g c:Nat}{xs:List Int}(h:ZQ base w g c xs)(hw:Below w.heap.size w w'):ZQ base w' g c xs:=
 h.kept (r:=none) ⟨hw.os,hw.tape,hw.output,hw.size,fun i hi _=>hw.block i hi⟩ (by simp)
theorem ZQ.mono{base base':Nat}{w:World}{g c:Nat}{xs:List Int}(h:ZQ base w g c xs)(hb:base'<=base):ZQ base' w g c xs:=
 ⟨h.1,h.2.imp id fun ⟨g,cap,cur,h1,h2,h3⟩=>⟨g,cap,cur,h1,Nat.le_trans hb h2,h3⟩⟩
theorem ZQ.start(w:World)(base:Nat)(hb:base<=w.heap.size):ZQ base (w.alloc (.cells #[] 2)) w.heap.size 0 []:=World.ownsRow_lit w #[] 0 hb (Nat.zero_le _) rfl
theorem ZQ.of{base:Nat}{w:World}{g c n:Nat}{xs:List Int}{ys:List Value}(h:w.ownsRow base 2 1 (.slice (some ⟨g,0,none⟩) n c) n ys)(hn:n=xs.length)(hx:ys=xs.map (Value.int .i64)):ZQ base w g c xs:=by
 subst hn hx;exact h
theorem ZQ.store{base:Nat}{w:World}{g c:Nat}{xs:List Int}(h:ZQ base w g c xs)(k:Nat)(v:Int):ZQ base (w.setCell ⟨g,k,none⟩ (.int .i64 v)) g c (xs.set k v):=by
 have a:=(World.ownsRow.stored h k (.int .i64 v)).1
 unfold ZQ
 rw [List.length_set,List.map_set]
 exact a
theorem ZoG(base g c:Nat)(k0:Int)(xs:List Int)(w:World)(ho:ZQ base w g c xs)(hn:xs.length<=1048576)(h0:1<=k0)(h1:k0<=100000000):
 Calls Tryz.prog 25 #[.slice (some ⟨g,0,none⟩) xs.length c,.int .i64 k0] w fun e w'=>e=.returned (.int .i64 (k0+xs.length))/\ZQ base w' g c (ZaE (fun i=>k0+i) xs.length)/\w.grownBy w' (some g):=by
 go_enter Tryz.func25,Tryz.ntmps25
 go_wp2
 go_loopw [1,5] (fun l i wr=>∃k:Nat,k<=xs.length/\i=.int .i64 k/\l=.int .i64 (k0+k)/\ZQ base wr g c (Zcd k0 xs k)/\w.grownBy wr (some g)) (fun _ i _=>xs.length-(intOf i).toNat)
 case atStart=>exact⟨0,Nat.zero_le _,rfl,by simp,by simpa [Zcd,ZaE] using ho,⟨rfl,rfl,rfl,Nat.le_refl _,fun _ _ _=>rfl⟩⟩
 case round=>
  obtain⟨k,m,rfl,rfl,a,b⟩:=hrel
  by_cases hlt:k<xs.length
  · have j:=a.seg k (by rw [Zdx _ _ _ m];exact hlt)
    rw [Nat.zero_add] at j
    have n:=World.ownsRow.frozenAt a k
    have d:=a.store k (k0+k)
    rw [Zfj k0 xs k hlt] at d
    have h:=Zal (k:=k) (v:=.int .i64 (k0+k)) b
    have f:=Za (And.intro d h)
    clear d h a b
    go_wp2
    go_roundw
    case rel=>exact⟨k+1,by omega,by go_num,by go_num,f.out.1,f.out.2⟩
    case measure=>simp [intOf];omega
  · go_wp2
    go_ret
    obtain rfl:k=xs.length:=by omega
    exact⟨rfl,by rw [<-Zfk];exact a,b⟩
theorem ZoH(ao:Option Addr)(cap n:Nat)(k0:Int)(w:World)(hv:Zy w ao (ZaE (fun i=>k0+i) n))(hn:n<=1048576)(h0:1<=k0)(h1:k0<=100000000):
 Calls Tryz.prog 26 #[.slice ao n cap,.int .i64 k0] w fun e w'=>e=.returned (.int .i64 (k0+n))/\w'=w:=by
 rcases Nat.eq_zero_or_pos n with h | h
 · subst h
   refine (ZlK ao cap k0 w).mono ?_
   rintro e w' ⟨rfl,rfl⟩
   exact⟨by simp,rfl⟩
 · obtain⟨b,c,rfl,j,f⟩:=hv.seg (by rw [ZE];exact h)
   go_enter Tryz.func26,Tryz.ntmps26
   go_wp2
   go_loop [1,5] (fun g i=>∃k:Nat,k<=n/\i=.int .i64 k/\g=.int .i64 (k0+k)) (fun _ i=>n-(intOf i).toNat)
   case atStart=>exact⟨0,Nat.zero_le _,rfl,by simp⟩
   case round=>
    obtain⟨k,l,rfl,rfl⟩:=hrel
    by_cases hlt:k<n
    · have d:=f k (by rw [ZE];exact hlt)
      rw [show nth (ZaE (fun i=>k0+i) n) k=k0+k from Zeg _ _ _ hlt] at d
      have a:((k0+(k:Int)) !=(k0+(k:Int)))=false:=by simp
      go_wp2
      go_round
      case rel=>exact⟨k+1,by omega,by go_num,by go_num⟩
      case measure=>simp [intOf];omega
    · go_wp2
      go_ret
      obtain rfl:k=n:=by omega
      exact⟨rfl,rfl⟩
def IOut(base:Nat)(w:World)(v:Value)(xs:List Int):Prop:=(v=.slice none 0 0/\xs=[])\/∃g c,v=.slice (some ⟨g,0,none⟩) xs.length c/\ZQ base w g c xs
def ChgV(v:Value)(w w':World):Prop:=w'.os=w.os/\w'.tape=w.tape/\w'.output=w.output/\w.heap.size<=w'.heap.size/\∀i,i<w.heap.size->(∀a n c,v=.slice (some a) n c->i≠a.block)->w'.heap[i]? =w.heap[i]?
theorem markO(base c:Nat)(ao:Option Addr)(k0:Int)(xs:List Int)(w:World)(h:IOut base w (.slice ao xs.length c) xs)(hn:xs.length<=1048576)(h0:1<=k0)(h1:k0<=100000000):
 Calls Tryz.prog 25 #[.slice ao xs.length c,.int .i64 k0] w fun e w'=>e=.returned (.int .i64 (k0+xs.length))/\IOut base w' (.slice ao (ZaE (fun i=>k0+i) xs.length).length c) (ZaE (fun i=>k0+i) xs.length)/\ChgV (.slice ao xs.length c) w w'/\∀g,(∃a,ao=some a/\a.block=g)->base<=g:=by
 rcases h with ⟨e,rfl⟩ | ⟨g,c',e,hr⟩
 · injection e with e1 e2 e3
   subst e1 e3
   refine (ZlL none 0 k0 w).mono ?_
   rintro e w' ⟨rfl,rfl⟩
   exact⟨by simp,Or.inl ⟨rfl,rfl⟩,⟨rfl,rfl,rfl,Nat.le_refl _,fun _ _ _=>rfl⟩,fun g ⟨a,j,_⟩=>by cases j⟩
 · injection e with e1 e2 e3
   subst e1 e3
   refine (ZoG base g c k0 xs w hr hn h0 h1).mono ?_
   rintro e w' ⟨rfl,f,b⟩
   refine⟨rfl,Or.inr ⟨g,c,rfl,f⟩,⟨b.os,b.tape,b.output,b.size,fun i k d=>b.block i k (fun e=>d ⟨g,0,none⟩ _ _ rfl (by injection e))⟩,fun q ⟨a,j,l⟩=>?_⟩
   cases j
   rw [<-l];exact hr.lt.1
theorem ZnB{w:World}{b:Nat}{u v:Value}{t:TypeId}(h:w.heap[b]? =some (.cells #[u,v] t))(hu:u.oneCell'=true)(hv:v.oneCell'=true):ZX w 2 (some ⟨b,0,none⟩) 1 [u,v]:=
 ⟨by simp,fun x hx=>by simp only [List.mem_cons,List.not_mem_nil,or_false] at hx;rcases hx with rfl | rfl;exact hu;exact hv,Or.inr ⟨_,rfl,fun j x hx=>by
  rw [Go.WideShapes.add_plain,Nat.zero_add]
  match j,hx with
  | 0,hx=>simp at hx;rw [<-hx];simp [World.cell?,h]
  | 1,hx=>simp at hx;rw [<-hx];simp [World.cell?,h]⟩⟩
def ZaD(id:Int)(d:Dm):Bool:=d.1 !=id
theorem ZnC{ds:List Dm}{i:Nat}(h:i<ds.length):ds.take (i+1)=ds.take i++[Zu ds i]:=by
 rw [List.take_succ_eq_append_getElem h]
 simp [Zu,List.getD,h]
theorem ZnD{p:Dm->Bool}{ds:List Dm}{i:Nat}(hi:i<ds.length):(ds.take (i+1)).filter p=(ds.take i).filter p++(if p (Zu ds i)=true then [Zu ds i] else []):=by
 rw [ZnC hi,List.filter_append]
 congr 1
 rcases e:p (Zu ds i) with _ | _ <;> simp [e]
theorem ZoT(p:Dm->Bool)(ds:List Dm)(i:Nat):((ds.take i).filter p).length<=i:=Nat.le_trans (List.length_filter_le _ _) (by rw [List.length_take];omega)
theorem ZnE (x : Int) (a : Option Addr) (n c : Nat) (w : World) : Sem.run Tryz.prog (method 413 161 (.agg #[.int .i64 x, .slice a n c]) "loop.example/g00273/impl.id") w = .ok (294, .agg #[.int .i64 x, .slice a n c]) w := by kernel_rfl
theorem ZoU(x:Int)(a:Option Addr)(n c:Nat)(w:World):
 Calls Tryz.prog 294 #[.agg #[.int .i64 x,.slice a n c]] w fun e w'=>e=.returned (.int .i64 x)/\Below w.heap.size w w':=by
 have b:Below w.heap.size w (w.alloc (.cells #[.int .i64 x,.slice a n c] 161)):=(Below.refl _ _).alloc (Nat.le_refl _) _
 have d:=Za b
 clear b
 go_enter Tryz.func294,Tryz.ntmps294
 go_wp2_with fail
 go_ret
 exact⟨rfl,d.out⟩
theorem ZoV(x id:Int)(X:Nat)(w:World)(hX:w.cell? ⟨X,0,none⟩=some (.int .i64 id)):
 Calls Tryz.prog 135 #[.int .i64 x,.pointer (some ⟨X,0,none⟩)] w fun e w'=>e=.returned (.bool (x !=id))/\w'=w:=by
 go_enter Tryz.func135,Tryz.ntmps135
 go_wp2_with fail
 go_ret
 exact⟨rfl,rfl⟩
theorem ZoW(gs cs X:Nat)(ds:List Dm)(id:Int)(w:World)(hg:gs<w.heap.size)(hs:∀i,i<ds.length->w.cell? ⟨gs,i*2,none⟩=some (.int .i64 (Zu ds i).1)/\w.cell? ⟨gs,i*2+1,none⟩=some (.slice (some ⟨(Zu ds i).2.1,0,none⟩) (Zu ds i).2.2.2.length (Zu ds i).2.2.1))(hl:ds.length<=61)(hXl:X<w.heap.size)(hX:w.cell? ⟨X,0,none⟩=some (.int .i64 id)):
 Calls Tryz.prog 134 #[.slice (some ⟨gs,0,none⟩) ds.length cs,.func (.func 135) #[] #[.pointer (some ⟨X,0,none⟩)]] w fun e w'=>∃g c,e=.returned (.slice (some ⟨g,0,none⟩) (ds.filter (ZaD id)).length c)/\w'.ownsRow w.heap.size 161 2 (.slice (some ⟨g,0,none⟩) (ds.filter (ZaD id)).length c) (ds.filter (ZaD id)).length (ZG (ds.filter (ZaD id)))/\Below w.heap.size w w':=by
 have R0:Hid ((w.alloc (.cells #[] 161)).ownsRow w.heap.size 161 2 (.slice (some ⟨w.heap.size,0,none⟩) 0 0) 0 []):=World.ownsRow_lit w #[] 0 (Nat.le_refl _) (Nat.zero_le _) rfl
 have L0:Below w.heap.size w (w.alloc (.cells #[] 161)):=(Below.refl _ _).alloc (Nat.le_refl _) _
 have HV:=Za hs
 have HX:=Za hX
 have r:=Za (And.intro hg hXl)
 have MI:=ZnE
 obtain⟨j0,a0,W,a3,Q⟩:=info_parts Tryz.info161
 clear hs hX
 go_enter Tryz.func134,Tryz.ntmps134
 go_wp2_with fail
 go_loopw [5,11] (fun v R wr=>∃(i g c:Nat),i<=ds.length/\R=.int .i64 i/\v=.slice (some ⟨g,0,none⟩) ((ds.take i).filter (ZaD id)).length c/\wr.ownsRow w.heap.size 161 2 (.slice (some ⟨g,0,none⟩) ((ds.take i).filter (ZaD id)).length c) ((ds.take i).filter (ZaD id)).length (ZG ((ds.take i).filter (ZaD id)))/\Below w.heap.size w wr) (fun _ R _=>ds.length-(intOf R).toNat)
 case atStart=>exact⟨0,w.heap.size,0,Nat.zero_le _,rfl,rfl,R0.out,L0⟩
 case round=>
  obtain⟨i,g,c,hi,rfl,rfl,z,L⟩:=hrel
  have l:=Za z
  have d:=Za L
  have hz:=L.size
  have am:=World.ownsRow.lt z g rfl
  have T:=ZoT (ZaD id) ds i
  clear z L
  by_cases hlt:i<ds.length
  · have a8:(i:Int)<(ds.length:Int):=by omega
    have ap:=n0Z i
    obtain⟨q,m⟩:=HV.out i hlt
    replace q:=(d.out.cell (p:=⟨gs,i*2,none⟩) r.out.1).trans q
    replace m:=(d.out.cell (p:=⟨gs,i*2+1,none⟩) r.out.1).trans m
    have h:=Za (ZnD (p:=ZaD id) hlt)
    have f:Hid (ZaD id (Zu ds i)=((Zu ds i).1 !=id)):=rfl
    have J:Hid (wr.cell? ⟨X,0,none⟩=some (.int .i64 id)/\X<wr.heap.size):=⟨(d.out.cell (p:=⟨X,0,none⟩) r.out.2).trans HX.out,by have:=r.out.2;omega⟩
    have A:Hid (ZG [Zu ds i]=[.int .i64 (Zu ds i).1,.slice (some ⟨(Zu ds i).2.1,0,none⟩) (Zu ds i).2.2.2.length (Zu ds i).2.2.1]):=rfl
    obtain⟨o,ho⟩:∃o,(ds.take i).filter (ZaD id)=o:=⟨_,rfl⟩
    have HO:=Za ho
    rw [ho] at l h T ⊢
    clear ho
    obtain⟨x,hx⟩:∃x,Zu ds i=x:=⟨_,rfl⟩
    rw [hx] at h f A q m
    clear hx
    obtain⟨t,D⟩:∃t,x.1=t:=⟨_,rfl⟩
    obtain⟨U,s⟩:∃U:Value,.slice (some ⟨x.2.1,0,none⟩) x.2.2.2.length x.2.2.1=U:=⟨_,rfl⟩
    have Z:Hid (∃a n k,U=.slice a n k):=⟨_,_,_,s.symm⟩
    rw [D,s] at A
    rw [D] at f q
    rw [s] at m
    clear D s
    obtain⟨M,K,N,rfl⟩:=Z.out
    obtain⟨V,G⟩:∃V,wr.alloc (.cells #[.int .i64 t,.slice M K N] 161)=V:=⟨_,rfl⟩
    have LV:=balZ G
    have y0:V.cell? ⟨wr.heap.size,0,none⟩=some (.int .i64 t):=by rw [<-G];simp
    have y1:V.cell? ⟨wr.heap.size,1,none⟩=some (.slice M K N):=by rw [<-G];simp
    have B:=altZ G
    have a4:=Za LV
    clear LV
    go_wp2_with fail
    clear G
    refine (ZoU t M K N _).mono ?_
    rintro e C ⟨rfl,O⟩
    have b:=Za (Zb a4.out O)
    have HC:=Za (ZoV t id X C ((b.out.cell (p:=⟨X,0,none⟩) J.out.2).trans J.out.1))
    have z0:=(O.cell (p:=⟨wr.heap.size,0,none⟩) B).trans y0
    have z1:=(O.cell (p:=⟨wr.heap.size,1,none⟩) B).trans y1
    have af:=Nat.lt_of_lt_of_le B O.size
    clear O y0 y1
    go_wp2_with fail
    refine HC.out.mono ?_
    rintro e w3 ⟨rfl,Y⟩
    have a2:=Y.symm
    subst a2
    have ak:=b.out.size
    rcases hh:(t !=id) with _ | _
    · rw [f.out,hh] at h
      have E:=Za (World.ownsRow.kept l.out (w':=C) (row:=none) ⟨b.out.os,b.out.tape,b.out.output,b.out.size,fun k H _=>b.out.block k H⟩ (Or.inr (by simp [Value.ownBlock])))
      have y:=Za (d.out.trans (b.out.mono hz))
      clear f z0 z1
      go_wp2_with fail
      go_roundw
      case rel=>
       have e:(ds.take (i+1)).filter (ZaD id)=o:=by rw [h.out];simp
       exact⟨i+1,g,c,by omega,by go_num,by rw [e],by rw [e];exact E.out,y.out⟩
      case measure=>simp [intOf];omega
    · rw [f.out,hh] at h
      have E:=Za (World.ownsRow.kept l.out (w':=C) (row:=none) ⟨b.out.os,b.out.tape,b.out.output,b.out.size,fun k H _=>b.out.block k H⟩ (Or.inr (by simp [Value.ownBlock])))
      have y:=Za (d.out.trans (b.out.mono hz))
      have S:=Za (World.ownsRow.alloc E.out (.cells #[.int .i64 t,.slice M K N] 161))
      have P:w.heap.size<=C.heap.size:=by omega
      clear f
      go_wp2_with (at_builtin;refine Zw _ rfl (.tmp 20) (.tmp 22) 179 rfl w.heap.size 161 j0 _ 2 32 Tryz.underlying179 a0 W a3 Q rfl (by omega) g o.length c (ZG o) rfl S.out (some ⟨C.heap.size,0,none⟩) 1 1 [.int .i64 t,.slice M K N] rfl (ZnB (heap_alloc_new C _) rfl rfl) (by unfold maxLen;omega) (by omega) (by simp;omega) (C.heap.size+1) (by simp) ?_;intro gg cc w4 u j a5 I)
      have F:Hid (w4.ownsRow w.heap.size 161 2 (.slice (some ⟨gg,0,none⟩) ((ds.take (i+1)).filter (ZaD id)).length cc) ((ds.take (i+1)).filter (ZaD id)).length (ZG ((ds.take (i+1)).filter (ZaD id)))/\Below w.heap.size w w4/\((ds.take (i+1)).filter (ZaD id)).length=o.length+1):=by
       have e:(ds.take (i+1)).filter (ZaD id)=o++[x]:=by rw [h.out];simp
       rw [e,List.length_append,List.length_singleton,Za2,A.out]
       exact⟨u,(y.out.alloc P _).grown j (by simp;omega) (by intro k H;cases H;omega),rfl⟩
      clear u j a5 I
      go_wp2
      go_roundw
      case rel=>exact⟨i+1,gg,cc,by omega,by go_num,by rw [F.out.2.2],F.out.1,F.out.2.1⟩
      case measure=>simp [intOf];omega
  · go_wp2_with fail
    go_ret
    obtain rfl:i=ds.length:=by omega
    rw [List.take_length] at l ⊢
    exact⟨g,c,rfl,l.out,d.out⟩
def Zaa(ms:List Mk)(id:Int):List Mk:=ms.filter (fun m=>m.1 !=id)
theorem Zfl(ds:List Dm):Zs ds=ds.map (fun d=>(d.1,d.2.2.2)):=by
 induction ds with
 | nil=>rfl
 | cons d ds ih=>simp [Zs]
theorem ZhB(ds:List Dm)(id:Int):Zs (ds.filter (ZaD id))=Zaa (Zs ds) id:=by
 rw [Zfl,Zfl,Zaa,List.filter_map]
 rfl
theorem ZdX{ms:List Mk}{i:Nat}(h:i<ms.length):mid ms i=ms[i].1:=by simp [mid,List.getD,h]
theorem Zj0{ms:List Mk}{id:Int}(h:ZC ms id<0):Zaa ms id=ms:=by
 refine List.filter_eq_self.2 (fun m b=>?_)
 obtain⟨i,a,rfl⟩:=List.getElem_of_mem b
 have:=Zfm h i a
 rw [ZdX a] at this
 simpa using this
theorem ZlM{ms:List Mk}{id:Int}(hm:Zt ms=true)(h:0<=ZC ms id):ms.take (ZD ms id)++ms.drop (ZD ms id+1)=Zaa ms id:=by
 obtain⟨d,-,f⟩:=Zab h
 have a:∀j,j<ms.length->j≠ZD ms id->mid ms j≠id:=fun j g a e=>by
  have:=(ZaF hm g).2
  rw [e] at this
  exact a this.symm
 have n:ms=ms.take (ZD ms id)++ms[ZD ms id]::ms.drop (ZD ms id+1):=by
  rw [<-List.drop_eq_getElem_cons d,List.take_append_drop]
 have o:(ms.take (ZD ms id)).filter (fun m=>m.1 !=id)=ms.take (ZD ms id):=by
  refine List.filter_eq_self.2 (fun m b=>?_)
  obtain⟨i,c,rfl⟩:=List.getElem_of_mem b
  rw [List.length_take] at c
  have:=a i (by omega) (by omega)
  rw [ZdX (by omega)] at this
  simpa using this
 have l:(ms.drop (ZD ms id+1)).filter (fun m=>m.1 !=id)=ms.drop (ZD ms id+1):=by
  refine List.filter_eq_self.2 (fun m b=>?_)
  obtain⟨i,c,rfl⟩:=List.getElem_of_mem b
  rw [List.length_drop] at c
  have:=a (ZD ms id+1+i) (by omega) (by omega)
  rw [ZdX (by omega)] at this
  simpa using this
 have k:(ms[ZD ms id].1 !=id)=false:=by
  rw [ZdX d] at f
  simp [f]
 unfold Zaa
 conv=>rhs;rw [n]
 rw [List.filter_append,o,List.filter_cons,if_neg (by rw [k];simp),l]
theorem ZhC(ms:List Mk)(id:Int):(Zaa ms id).length<=ms.length:=List.length_filter_le _ _
theorem Zkz(ms:List Mk)(id:Int):decide ((Zaa ms id).length<ms.length)=decide (0<=ZC ms id):=by
 rcases Int.lt_or_le (ZC ms id) 0 with h | h
 · rw [Zj0 h];simp;omega
 · have a:=Zab h
   have:(Zaa ms id).length<ms.length:=by
    rcases Nat.lt_or_ge (Zaa ms id).length ms.length with e | e
    · exact e
    · exfalso
      have c:=(List.filter_sublist (p:=fun m:Mk=>m.1 !=id) (l:=ms)).eq_of_length_le e
      have b:ms[ZD ms id]'a.1∈Zaa ms id:=by
       have:ms[ZD ms id]'a.1∈ms:=List.getElem_mem _
       unfold Zaa
       rw [c];exact this
      have d:=(List.mem_filter.1 b).2
      have:=a.2.2
      rw [ZdX a.1] at this
      simp [this] at d
   simp [h,this]
theorem ZiP{ms:List Mk}{id:Int}(h:ZL ms):ZL (Zaa ms id):=by
 refine⟨Nat.le_trans (ZhC ms id) h.1,fun i=>?_⟩
 rcases Nat.lt_or_ge i (Zaa ms id).length with hi | hi
 · have a:(Zaa ms id)[i]∈ms:=(List.mem_filter.1 (List.getElem_mem hi)).1
   obtain⟨j,b,e⟩:=List.getElem_of_mem a
   have:=h.2 j
   have c:mat (Zaa ms id) i=mat ms j:=by simp [mat,List.getD,hi,b,e]
   rw [c];exact this
 · have:mat (Zaa ms id) i=[]:=by simp [mat,List.getD,hi]
   rw [this];simp
end Go.Proofs.YtilkaeclgmcolaaGreat
