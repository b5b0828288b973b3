import Derived.Test.YtaaagmgglolibaaGreatMovedSZz
import Derived.Test.YtaaagmgglolibaaGreatMCellsZz
import Derived.Test.YtaaagmgglolibaaGreatBMarkZz
import Derived.Test.YtaaagmgglolibaaGreatAppendZz
import Derived.Test.YtaaagmgglolibaaGreatMathZz
set_option maxRecDepth 100000
set_option maxHeartbeats 4000000
namespace Go.Proofs.YtaaagmgglolibaaGreat
open Go Go.RowKit
abbrev Dm:=Int×Nat×Nat×List Int
def Zu:List Dm->List Value
 | []=>[]
 | d::ds=>.int .i64 d.1::.slice (some ⟨d.2.1,0,none⟩) d.2.2.2.length d.2.2.1::Zu ds
def Zj(ds:List Dm):List Mk:=ds.map fun d=>(d.1,d.2.2.2)
def Zk(ds:List Dm)(i:Nat):Dm:=ds.getD i (0,0,0,[])
def ZL(base:Nat)(w:World)(g c:Nat)(ds:List Dm):Prop:=
 w.ownsRow base 29 2 (.slice (some ⟨g,0,none⟩) ds.length c) ds.length (Zu ds)/\(∀d∈ds,Row base w d.2.1 d.2.2.1 d.2.2.2/\d.2.1≠g)/\ds.Pairwise (fun d e=>d.2.1<e.2.1)
def ZeD(width id:Int)(ds:List Dm):Prop:=(∀d∈ds,1<=d.1/\d.1<=id/\(d.2.2.2.length:Int)=width/\∀x∈d.2.2.2,-6<=x/\x<=13)/\ds.Pairwise (fun d e=>d.1<e.1)
theorem Zci(ds:List Dm):(Zu ds).length=ds.length*2:=by
 induction ds with
 | nil=>rfl
 | cons d ds ih=>simp [Zu,ih];omega
theorem Zay(ds es:List Dm):Zu (ds++es)=Zu ds++Zu es:=by
 induction ds with
 | nil=>rfl
 | cons d ds ih=>simp [Zu,ih]
theorem ZbY(ds:List Dm)(i:Nat)(h:i<ds.length):(Zu ds)[i*2]? =some (.int .i64 (Zk ds i).1)/\(Zu ds)[i*2+1]? =some (.slice (some ⟨(Zk ds i).2.1,0,none⟩) (Zk ds i).2.2.2.length (Zk ds i).2.2.1):=by
 induction ds generalizing i with
 | nil=>simp at h
 | cons d ds ih=>
   match i,h with
   | 0,_=>exact⟨rfl,rfl⟩
   | k+1,h=>
     have:=ih k (by simpa using h)
     rw [show (k+1)*2=k*2+1+1 by omega]
     exact this
theorem Za4(ds:List Dm)(i:Nat)(h:i<ds.length):Zk ds i∈ds:=by
 simp [Zk,List.getD,h]
theorem Zp(ds:List Dm):(Zj ds).length=ds.length:=by simp [Zj]
theorem ZaS(ds:List Dm)(i:Nat)(h:i<ds.length):ZH (Zj ds) i=((Zk ds i).1,(Zk ds i).2.2.2):=by
 simp [ZH,Zj,Zk,List.getD,h]
theorem Row.seg{base:Nat}{w:World}{g c:Nat}{xs:List Int}(h:Row base w g c xs):Seg w g 0 xs:=fun i hi=>by
 rw [Nat.zero_add,World.ownsRow.cellAt h i (by omega)]
 simp [nth,List.getD,hi]
theorem Row.lt2{base:Nat}{w:World}{g c:Nat}{xs:List Int}(h:Row base w g c xs):base<=g/\g<w.heap.size:=World.ownsRow.lt h g rfl
theorem ZL.cells{base:Nat}{w:World}{g c:Nat}{ds:List Dm}(h:ZL base w g c ds)(i:Nat)(hi:i<ds.length):
 w.cell? ⟨g,i*2,none⟩=some (.int .i64 (Zk ds i).1)/\w.cell? ⟨g,i*2+1,none⟩=some (.slice (some ⟨(Zk ds i).2.1,0,none⟩) (Zk ds i).2.2.2.length (Zk ds i).2.2.1):=by
 have:=ZbY ds i hi
 rw [World.ownsRow.cellAt h.1 _ (by omega),World.ownsRow.cellAt h.1 _ (by omega)]
 exact this
theorem ZL.lt{base:Nat}{w:World}{g c:Nat}{ds:List Dm}(h:ZL base w g c ds):base<=g/\g<w.heap.size:=World.ownsRow.lt h.1 g rfl
theorem ZL.cap{base:Nat}{w:World}{g c:Nat}{ds:List Dm}(h:ZL base w g c ds):ds.length<=c:=by
 obtain⟨_,⟨h1,_⟩ | ⟨g',c',cur,h1,_,_,h2,_⟩⟩:=h.1
 · cases h1
 · injection h1 with e1 e2 e3
   omega
theorem ZL.view{base:Nat}{w:World}{g c:Nat}{ds:List Dm}(h:ZL base w g c ds):Zq w (some ⟨g,0,none⟩) (Zj ds):=
 Or.inr ⟨g,0,rfl,h.lt.2,fun i hi=>by
  rw [Zp] at hi
  rw [Nat.zero_add,ZaS ds i hi]
  have:=h.cells i hi
  exact⟨this.1,_,_,this.2,(h.2.1 _ (Za4 ds i hi)).1.view⟩⟩
theorem ZL.kept{base:Nat}{w w':World}{g c:Nat}{r:Option Nat}{ds:List Dm}(h:ZL base w g c ds)(hg:w.grownBy w' r)(hr:∀q,r=some q->q<base):ZL base w' g c ds:=by
 refine⟨World.ownsRow.kept h.1 hg (Or.inr ?_),fun d hd=>⟨World.ownsRow.kept (h.2.1 d hd).1 hg (Or.inr ?_),(h.2.1 d hd).2⟩,h.2.2⟩
 · intro e
   have:=hr g (by rw [<-e];rfl)
   have:=h.lt
   omega
 · intro e
   have:=hr d.2.1 (by rw [<-e];rfl)
   have:=(h.2.1 d hd).1.lt2
   omega
theorem ZL.start(w:World)(base:Nat)(hb:base<=w.heap.size):ZL base (w.alloc (.cells #[] 29)) w.heap.size 0 []:=
 ⟨World.ownsRow_lit w #[] 0 hb (Nat.zero_le _) rfl,fun d hd=>(by cases hd),List.Pairwise.nil⟩
theorem ZL.snoc{base:Nat}{w w':World}{g c gg cc b cp:Nat}{id:Int}{xs:List Int}{ds:List Dm}(h:ZL base w g c ds)
 (hrow:Row base w b cp xs) (hbg:b≠g) (hlast:∀d∈ds,d.2.1<b)
 (hown:w'.ownsRow base 29 2 (.slice (some ⟨gg,0,none⟩) (ds.length+1) cc) (ds.length+1) (Zu ds++[.int .i64 id,.slice (some ⟨b,0,none⟩) xs.length cp]))
 (hg:w.grownBy w' (some g)) (hgg:gg=g\/gg=w.heap.size):ZL base w' gg cc (ds++[(id,b,cp,xs)]):=by
 have hnew:∀d:Dm,Row base w d.2.1 d.2.2.1 d.2.2.2->d.2.1≠g->Row base w' d.2.1 d.2.2.1 d.2.2.2/\d.2.1≠gg:=fun d hd hne=>
  ⟨World.ownsRow.kept hd hg (Or.inr (by intro e;injection e with e;exact hne e)),by
   have:=hd.lt2
   rcases hgg with e | e
   · rw [e];exact hne
   · rw [e];omega⟩
 refine⟨?_,fun d hd=>?_,?_⟩
 · rw [Zay,List.length_append];exact hown
 · rcases List.mem_append.1 hd with hd | hd
   · exact hnew d (h.2.1 d hd).1 (h.2.1 d hd).2
   · rw [List.mem_singleton.1 hd];exact hnew (id,b,cp,xs) hrow hbg
 · rw [List.pairwise_append]
   exact⟨h.2.2,by simp,fun d hd e he=>by rw [List.mem_singleton.1 he];exact hlast d hd⟩
theorem ZeD.snoc{width id id':Int}{b cp:Nat}{xs:List Int}{ds:List Dm}(h:ZeD width id ds)(h1:id<id')(h0:1<=id')(hl:(xs.length:Int)=width)(hx:∀x∈xs,-6<=x/\x<=13):ZeD width id' (ds++[(id',b,cp,xs)]):=by
 refine⟨fun d hd=>?_,?_⟩
 · rcases List.mem_append.1 hd with hd | hd
   · have:=h.1 d hd
     exact⟨this.1,by omega,this.2.2⟩
   · rw [List.mem_singleton.1 hd];exact⟨h0,Int.le_refl _,hl,hx⟩
 · rw [List.pairwise_append]
   exact⟨h.2,by simp,fun d hd e he=>by rw [List.mem_singleton.1 he];have:=h.1 d hd;show d.1<id';omega⟩
theorem ZeD.nil(width:Int):ZeD width 0 []:=⟨fun d hd=>(by cases hd),List.Pairwise.nil⟩
theorem Zno{w:World}{b:Nat}{u v:Value}{t:TypeId}(h:w.heap[b]? =some (.cells #[u,v] t))(hu:u.oneCell'=true)(hv:v.oneCell'=true):ZV w 2 (some ⟨b,0,none⟩) 1 [u,v]:=
 ⟨by simp,fun x hx=>by simp only [List.mem_cons,List.not_mem_nil,or_false] at hx;rcases hx with rfl | rfl;exact hu;exact hv,Or.inr ⟨_,rfl,fun j x hx=>by
  rw [Go.WideShapes.add_plain,Nat.zero_add]
  match j,hx with
  | 0,hx=>simp at hx;rw [<-hx];simp [World.cell?,h]
  | 1,hx=>simp at hx;rw [<-hx];simp [World.cell?,h]⟩⟩
def ZaA(id:Int)(d:Dm):Bool:=d.1 !=id
theorem Znp{ds:List Dm}{i:Nat}(h:i<ds.length):ds.take (i+1)=ds.take i++[Zk ds i]:=by
 rw [List.take_succ_eq_append_getElem h]
 simp [Zk,List.getD,h]
theorem Znq{p:Dm->Bool}{ds:List Dm}{i:Nat}(hi:i<ds.length):(ds.take (i+1)).filter p=(ds.take i).filter p++(if p (Zk ds i)=true then [Zk ds i] else []):=by
 rw [Znp hi,List.filter_append]
 congr 1
 rcases e:p (Zk ds i) with _ | _ <;> simp [e]
theorem Zow(p:Dm->Bool)(ds:List Dm)(i:Nat):((ds.take i).filter p).length<=i:=Nat.le_trans (List.length_filter_le _ _) (by rw [List.length_take];omega)
theorem Znr (x : Int) (a : Option Addr) (n c : Nat) (w : World) : Sem.run Tryz.prog (method 465 29 (.agg #[.int .i64 x, .slice a n c]) "loop.example/g00273/impl.id") w = .ok (345, .agg #[.int .i64 x, .slice a n c]) w := by kernel_rfl
theorem Zox(x:Int)(a:Option Addr)(n c:Nat)(w:World):
 Calls Tryz.prog 345 #[.agg #[.int .i64 x,.slice a n c]] w fun e w'=>e=.returned (.int .i64 x)/\Below w.heap.size w w':=by
 have hB:Below w.heap.size w (w.alloc (.cells #[.int .i64 x,.slice a n c] 29)):=(Below.refl _ _).alloc (Nat.le_refl _) _
 have HB:=Za hB
 clear hB
 go_enter Tryz.func345,Tryz.ntmps345
 go_wp2_with fail
 go_ret
 exact⟨rfl,HB.out⟩
theorem Zoy(x id:Int)(X:Nat)(w:World)(hX:w.cell? ⟨X,0,none⟩=some (.int .i64 id)):
 Calls Tryz.prog 133 #[.int .i64 x,.pointer (some ⟨X,0,none⟩)] w fun e w'=>e=.returned (.bool (x !=id))/\w'=w:=by
 go_enter Tryz.func133,Tryz.ntmps133
 go_wp2_with fail
 go_ret
 exact⟨rfl,rfl⟩
theorem Zoq(gs cs X:Nat)(ds:List Dm)(id:Int)(w:World)(hg:gs<w.heap.size)(hs:∀i,i<ds.length->w.cell? ⟨gs,i*2,none⟩=some (.int .i64 (Zk ds i).1)/\w.cell? ⟨gs,i*2+1,none⟩=some (.slice (some ⟨(Zk ds i).2.1,0,none⟩) (Zk ds i).2.2.2.length (Zk ds i).2.2.1))(hl:ds.length<=61)(hXl:X<w.heap.size)(hX:w.cell? ⟨X,0,none⟩=some (.int .i64 id)):
 Calls Tryz.prog 132 #[.slice (some ⟨gs,0,none⟩) ds.length cs,.func (.func 133) #[] #[.pointer (some ⟨X,0,none⟩)]] w fun e w'=>∃g c,e=.returned (.slice (some ⟨g,0,none⟩) (ds.filter (ZaA id)).length c)/\w'.ownsRow w.heap.size 29 2 (.slice (some ⟨g,0,none⟩) (ds.filter (ZaA id)).length c) (ds.filter (ZaA id)).length (Zu (ds.filter (ZaA id)))/\Below w.heap.size w w':=by
 have R0:Hid ((w.alloc (.cells #[] 29)).ownsRow w.heap.size 29 2 (.slice (some ⟨w.heap.size,0,none⟩) 0 0) 0 []):=World.ownsRow_lit w #[] 0 (Nat.le_refl _) (Nat.zero_le _) rfl
 have L0:Below w.heap.size w (w.alloc (.cells #[] 29)):=(Below.refl _ _).alloc (Nat.le_refl _) _
 have HV:=Za hs
 have HX:=Za hX
 have HGX:=Za (And.intro hg hXl)
 have MI:=Znr
 obtain⟨j0,hj0,hy0,hy1,hy2⟩:=info_parts Tryz.info29
 clear hs hX
 go_enter Tryz.func132,Tryz.ntmps132
 go_wp2_with fail
 go_loopw [5,11] (fun v iv wr=>∃(i g c:Nat),i<=ds.length/\iv=.int .i64 i/\v=.slice (some ⟨g,0,none⟩) ((ds.take i).filter (ZaA id)).length c/\wr.ownsRow w.heap.size 29 2 (.slice (some ⟨g,0,none⟩) ((ds.take i).filter (ZaA id)).length c) ((ds.take i).filter (ZaA id)).length (Zu ((ds.take i).filter (ZaA id)))/\Below w.heap.size w wr) (fun _ iv _=>ds.length-(intOf iv).toNat)
 case atStart=>exact⟨0,w.heap.size,0,Nat.zero_le _,rfl,rfl,R0.out,L0⟩
 case round=>
  obtain⟨i,g,c,hi,rfl,rfl,hro,L⟩:=hrel
  have HRO:=Za hro
  have HLL:=Za L
  have hz:=L.size
  have hgl:=World.ownsRow.lt hro g rfl
  have hfl:=Zow (ZaA id) ds i
  clear hro L
  by_cases hlt:i<ds.length
  · have hlti:(i:Int)<(ds.length:Int):=by omega
    have hi0:(0:Int)<=(i:Int):=Int.natCast_nonneg _
    obtain⟨hc0,hc1⟩:=HV.out i hlt
    replace hc0:=(HLL.out.cell (p:=⟨gs,i*2,none⟩) HGX.out.1).trans hc0
    replace hc1:=(HLL.out.cell (p:=⟨gs,i*2+1,none⟩) HGX.out.1).trans hc1
    have HFS:=Za (Znq (p:=ZaA id) hlt)
    have HHH:Hid (ZaA id (Zk ds i)=((Zk ds i).1 !=id)):=rfl
    have HXR:Hid (wr.cell? ⟨X,0,none⟩=some (.int .i64 id)/\X<wr.heap.size):=⟨(HLL.out.cell (p:=⟨X,0,none⟩) HGX.out.2).trans HX.out,by have:=HGX.out.2;omega⟩
    have HDC:Hid (Zu [Zk ds i]=[.int .i64 (Zk ds i).1,.slice (some ⟨(Zk ds i).2.1,0,none⟩) (Zk ds i).2.2.2.length (Zk ds i).2.2.1]):=rfl
    obtain⟨o,ho⟩:∃o,(ds.take i).filter (ZaA id)=o:=⟨_,rfl⟩
    have HO:=Za ho
    rw [ho] at HRO HFS hfl ⊢
    clear ho
    obtain⟨x,hx⟩:∃x,Zk ds i=x:=⟨_,rfl⟩
    rw [hx] at HFS HHH HDC hc0 hc1
    clear hx
    obtain⟨xi,hxi⟩:∃xi,x.1=xi:=⟨_,rfl⟩
    obtain⟨xs,hxs⟩:∃xs:Value,.slice (some ⟨x.2.1,0,none⟩) x.2.2.2.length x.2.2.1=xs:=⟨_,rfl⟩
    have HXS:Hid (∃a n k,xs=.slice a n k):=⟨_,_,_,hxs.symm⟩
    rw [hxi,hxs] at HDC
    rw [hxi] at HHH hc0
    rw [hxs] at hc1
    clear hxi hxs
    obtain⟨xa,xn,xk,rfl⟩:=HXS.out
    obtain⟨V,hV⟩:∃V,wr.alloc (.cells #[.int .i64 xi,.slice xa xn xk] 29)=V:=⟨_,rfl⟩
    have LV:Below wr.heap.size wr V:=by rw [<-hV];exact (Below.refl _ _).alloc (Nat.le_refl _) _
    have y0:V.cell? ⟨wr.heap.size,0,none⟩=some (.int .i64 xi):=by rw [<-hV];simp
    have y1:V.cell? ⟨wr.heap.size,1,none⟩=some (.slice xa xn xk):=by rw [<-hV];simp
    have hyl:wr.heap.size<V.heap.size:=by rw [<-hV];simp
    have HLV:=Za LV
    clear LV
    go_wp2_with fail
    clear hV
    refine (Zox xi xa xn xk _).mono ?_
    rintro e w2 ⟨rfl,L2⟩
    have HL2:=Za (Zd HLV.out L2)
    have HC:=Za (Zoy xi id X w2 ((HL2.out.cell (p:=⟨X,0,none⟩) HXR.out.2).trans HXR.out.1))
    have z0:=(L2.cell (p:=⟨wr.heap.size,0,none⟩) hyl).trans y0
    have z1:=(L2.cell (p:=⟨wr.heap.size,1,none⟩) hyl).trans y1
    have hyl2:=Nat.lt_of_lt_of_le hyl L2.size
    clear L2 y0 y1
    go_wp2_with fail
    refine HC.out.mono ?_
    rintro e w3 ⟨rfl,hw3⟩
    have hw4:=hw3.symm
    subst hw4
    have hz3:=HL2.out.size
    rcases hh:(xi !=id) with _ | _
    · rw [HHH.out,hh] at HFS
      have HRF:=Za (World.ownsRow.kept HRO.out (w':=w2) (row:=none) ⟨HL2.out.os,HL2.out.tape,HL2.out.output,HL2.out.size,fun k hk _=>HL2.out.block k hk⟩ (Or.inr (by simp [Value.ownBlock])))
      have HLF:=Za (HLL.out.trans (HL2.out.mono hz))
      clear HHH z0 z1
      go_wp2_with fail
      go_roundw
      case rel=>
       have e:(ds.take (i+1)).filter (ZaA id)=o:=by rw [HFS.out];simp
       exact⟨i+1,g,c,by omega,by go_num,by rw [e],by rw [e];exact HRF.out,HLF.out⟩
      case measure=>simp [intOf];omega
    · rw [HHH.out,hh] at HFS
      have HRF:=Za (World.ownsRow.kept HRO.out (w':=w2) (row:=none) ⟨HL2.out.os,HL2.out.tape,HL2.out.output,HL2.out.size,fun k hk _=>HL2.out.block k hk⟩ (Or.inr (by simp [Value.ownBlock])))
      have HLF:=Za (HLL.out.trans (HL2.out.mono hz))
      have HRA:=Za (World.ownsRow.alloc HRF.out (.cells #[.int .i64 xi,.slice xa xn xk] 29))
      have hz4:w.heap.size<=w2.heap.size:=by omega
      clear HHH
      go_wp2_with (at_builtin;refine Zx _ rfl (.tmp 20) (.tmp 22) 173 rfl w.heap.size 29 j0 _ 2 32 Tryz.underlying173 hj0 hy0 hy1 hy2 rfl (by omega) g o.length c (Zu o) rfl HRA.out (some ⟨w2.heap.size,0,none⟩) 1 1 [.int .i64 xi,.slice xa xn xk] rfl (Zno (heap_alloc_new w2 _) rfl rfl) (by unfold maxLen;omega) (by omega) (by simp;omega) (w2.heap.size+1) (by simp) ?_;intro gg cc w4 hown hgrow hat hltt)
      have HW4:Hid (w4.ownsRow w.heap.size 29 2 (.slice (some ⟨gg,0,none⟩) ((ds.take (i+1)).filter (ZaA id)).length cc) ((ds.take (i+1)).filter (ZaA id)).length (Zu ((ds.take (i+1)).filter (ZaA id)))/\Below w.heap.size w w4/\((ds.take (i+1)).filter (ZaA id)).length=o.length+1):=by
       have e:(ds.take (i+1)).filter (ZaA id)=o++[x]:=by rw [HFS.out];simp
       rw [e,List.length_append,List.length_singleton,Zay,HDC.out]
       exact⟨hown,(HLF.out.alloc hz4 _).grown hgrow (by simp;omega) (by intro k hk;cases hk;omega),rfl⟩
      clear hown hgrow hat hltt
      go_wp2
      go_roundw
      case rel=>exact⟨i+1,gg,cc,by omega,by go_num,by rw [HW4.out.2.2],HW4.out.1,HW4.out.2.1⟩
      case measure=>simp [intOf];omega
  · go_wp2_with fail
    go_ret
    obtain rfl:i=ds.length:=by omega
    rw [List.take_length] at HRO ⊢
    exact⟨g,c,rfl,HRO.out,HLL.out⟩
def ZS(ms:List Mk)(id:Int):List Mk:=ms.filter (fun m=>m.1 !=id)
theorem ZdC(ds:List Dm):Zj ds=ds.map (fun d=>(d.1,d.2.2.2)):=by
 induction ds with
 | nil=>rfl
 | cons d ds ih=>simp [Zj]
theorem ZhP(ds:List Dm)(id:Int):Zj (ds.filter (ZaA id))=ZS (Zj ds) id:=by
 rw [ZdC,ZdC,ZS,List.filter_map]
 rfl
theorem Zfe(ds:List Dm)(k:Nat):Zj (ds.take k++ds.drop (k+1))=(Zj ds).take k++(Zj ds).drop (k+1):=by
 simp [ZdC,List.map_take,List.map_drop]
theorem Zd0{ms:List Mk}{i:Nat}(h:i<ms.length):mid ms i=ms[i].1:=by simp [mid,List.getD,h]
theorem ZgG{ms:List Mk}{id:Int}(h:Zv ms id<0):ZS ms id=ms:=by
 refine List.filter_eq_self.2 (fun m hm=>?_)
 obtain⟨i,hi,rfl⟩:=List.getElem_of_mem hm
 have:=Zfw h i hi
 rw [Zd0 hi] at this
 simpa using this
theorem Zhv{ms:List Mk}{id:Int}(hm:Zn ms=true)(h:0<=Zv ms id):ms.take (Zy ms id)++ms.drop (Zy ms id+1)=ZS ms id:=by
 obtain⟨h1,-,h3⟩:=ZQ h
 have hne:∀j,j<ms.length->j≠Zy ms id->mid ms j≠id:=fun j hj hne e=>by
  have:=(Zam hm hj).2
  rw [e] at this
  exact hne this.symm
 have e1:ms=ms.take (Zy ms id)++ms[Zy ms id]::ms.drop (Zy ms id+1):=by
  rw [<-List.drop_eq_getElem_cons h1,List.take_append_drop]
 have f1:(ms.take (Zy ms id)).filter (fun m=>m.1 !=id)=ms.take (Zy ms id):=by
  refine List.filter_eq_self.2 (fun m hm'=>?_)
  obtain⟨i,hi,rfl⟩:=List.getElem_of_mem hm'
  rw [List.length_take] at hi
  have:=hne i (by omega) (by omega)
  rw [Zd0 (by omega)] at this
  simpa using this
 have f2:(ms.drop (Zy ms id+1)).filter (fun m=>m.1 !=id)=ms.drop (Zy ms id+1):=by
  refine List.filter_eq_self.2 (fun m hm'=>?_)
  obtain⟨i,hi,rfl⟩:=List.getElem_of_mem hm'
  rw [List.length_drop] at hi
  have:=hne (Zy ms id+1+i) (by omega) (by omega)
  rw [Zd0 (by omega)] at this
  simpa using this
 have e2:(ms[Zy ms id].1 !=id)=false:=by
  rw [Zd0 h1] at h3
  simp [h3]
 unfold ZS
 conv=>rhs;rw [e1]
 rw [List.filter_append,f1,List.filter_cons,if_neg (by rw [e2];simp),f2]
theorem Zfp(ms:List Mk)(id:Int):(ZS ms id).length<=ms.length:=List.length_filter_le _ _
theorem Zky(ms:List Mk)(id:Int):decide ((ZS ms id).length<ms.length)=decide (0<=Zv ms id):=by
 rcases Int.lt_or_le (Zv ms id) 0 with h | h
 · rw [ZgG h];simp;omega
 · have h1:=ZQ h
   have:(ZS ms id).length<ms.length:=by
    rcases Nat.lt_or_ge (ZS ms id).length ms.length with e | e
    · exact e
    · exfalso
      have hs:=(List.filter_sublist (p:=fun m:Mk=>m.1 !=id) (l:=ms)).eq_of_length_le e
      have hin:ms[Zy ms id]'h1.1∈ZS ms id:=by
       have:ms[Zy ms id]'h1.1∈ms:=List.getElem_mem _
       unfold ZS
       rw [hs];exact this
      have hp:=(List.mem_filter.1 hin).2
      have:=h1.2.2
      rw [Zd0 h1.1] at this
      simp [this] at hp
   simp [h,this]
end Go.Proofs.YtaaagmgglolibaaGreat
