import Derived.Test.YtilkaeclgmcolaaGreatMCellsZz
import Derived.Test.YtilkaeclgmcolaaGreatMovedSZz
import Derived.Test.YtilkaeclgmcolaaGreatMCopyZz
import Derived.Test.YtilkaeclgmcolaaGreatLastZz
import Derived.Tactics
import Derived.Tactics2
import Derived.Defers
import Derived.Laws.Pointers
import Derived.Laws.LoneSync
import Derived.RegionTactic
import Derived.RegionCalls
import Derived.ChangeAlike
import Derived.Laws.NewBlocks
set_option maxRecDepth 100000
set_option maxHeartbeats 1600000
namespace Go.Proofs.YtilkaeclgmcolaaGreat
open Go Go.RowKit
def GIn(lo hi:Nat)(w w':World):Prop:=w'.os=w.os/\w'.tape=w.tape/\w'.output=w.output/\w.heap.size<=w'.heap.size/\∀i,i<w.heap.size->(i<lo\/hi<=i)->w'.heap[i]? =w.heap[i]?
theorem GIn.refl(lo hi:Nat)(w:World):GIn lo hi w w:=⟨rfl,rfl,rfl,Nat.le_refl _,fun _ _ _=>rfl⟩
theorem GIn.grown{lo hi:Nat}{w w1 w2:World}{g:Nat}(h:GIn lo hi w w1)(k:w1.grownBy w2 (some g))(h1:lo<=g)(h2:g<hi):GIn lo hi w w2:=
 ⟨k.os.trans h.1,k.tape.trans h.2.1,k.output.trans h.2.2.1,Nat.le_trans h.2.2.2.1 k.size,fun i hi' hc=>(k.block i (Nat.lt_of_lt_of_le hi' h.2.2.2.1) (fun e=>by injection e with e;omega)).trans (h.2.2.2.2 i hi' hc)⟩
theorem Zfx(b:Nat)(k0:Int)(xs:List Int)(w:World)(ho:Own w b xs)(hn:xs.length<=1048576)(h0:1<=k0)(h1:k0<=4611686018427387904):
 Calls Tryz.prog 25 #[.slice (some ⟨b,0,none⟩) xs.length xs.length,.int .i64 k0] w fun e w'=>e=.returned (.int .i64 (k0+xs.length))/\Own w' b (ZaE (fun i=>k0+i) xs.length)/\w.grownBy w' (some b):=by
 go_enter Tryz.func25,Tryz.ntmps25
 go_wp2
 go_loopw [1,5] (fun h i wr=>∃k:Nat,k<=xs.length/\i=.int .i64 k/\h=.int .i64 (k0+k)/\Own wr b (Zcd k0 xs k)/\w.grownBy wr (some b)) (fun _ i _=>xs.length-(intOf i).toNat)
 case atStart=>exact⟨0,Nat.zero_le _,rfl,by simp,by simpa [Zcd,ZaE] using ho,⟨rfl,rfl,rfl,Nat.le_refl _,fun _ _ _=>rfl⟩⟩
 case round=>
  obtain⟨k,j,rfl,rfl,a,c⟩:=hrel
  by_cases hlt:k<xs.length
  · have m:=a.seg.at k (by rw [Zdx _ _ _ j];exact hlt)
    have l:=a.frozen k
    have d:=a.set k (k0+k)
    rw [Zfj k0 xs k hlt] at d
    have g:=Zal (k:=k) (v:=.int .i64 (k0+k)) c
    have f:=Za (And.intro d g)
    clear d g a c
    go_wp2
    go_roundw
    case rel=>exact⟨k+1,by omega,by go_num,by go_num,f.out.1,f.out.2⟩
    case measure=>simp [intOf];omega
  · go_wp2
    go_ret
    obtain rfl:k=xs.length:=by omega
    exact⟨rfl,by rw [<-Zfk];exact a,c⟩
def Zbk(w:World)(b hi:Nat)(ms:List Mk):Prop:=b<w.heap.size/\b<hi/\(∀j,w.frozen? ⟨b,j,none⟩=false)/\
 ∀j,j<ms.length->(∃v,w.cell? ⟨b,j*2,none⟩=some v)/\∃g xs,b<g/\g<hi/\w.cell? ⟨b,j*2+1,none⟩=some (.slice (some ⟨g,0,none⟩) (mat ms j).length (mat ms j).length)/\xs.length=(mat ms j).length/\Own w g xs
theorem ZaQ.over{w:World}{b:Nat}{ms:List Mk}(h:ZaQ w b ms.length ms.length ms):Zbk w b w.heap.size ms:=
 ⟨h.1,h.1,h.2.2.2,fun j hj=>by
  obtain⟨c0,g,hg,c1,o⟩:=h.2.1 j hj
  exact⟨⟨_,c0⟩,g,mat ms j,hg,o.lt,c1,rfl,o⟩⟩
theorem Zbk.setId{w:World}{b hi:Nat}{ms:List Mk}(h:Zbk w b hi ms)(k:Nat)(v:Value):Zbk (w.setCell ⟨b,k*2,none⟩ v) b hi ms:=by
 obtain⟨d,m,p,n⟩:=h
 refine⟨by rw [Ze];exact d,m,fun j=>by rw [World.frozen?_setCell];exact p j,fun j f=>?_⟩
 obtain⟨⟨u,c0⟩,g,i,c,a,c1,l,o⟩:=n j f
 refine⟨?_,g,i,c,a,by rw [ZP _ _ _ _ _ (by omega)];exact c1,l,o.setOther (by simp;omega) _⟩
 by_cases e:k=j
 · subst e;exact⟨_,World.cell?_setCell_same _ _ _ c0⟩
 · exact⟨u,by rw [ZP _ _ _ _ _ (by omega)];exact c0⟩
theorem Zbk.marked{w w':World}{b hi g:Nat}{ms:List Mk}{xs ys:List Int}(h:Zbk w b hi ms)(hb:b<g)(ho:Own w g xs)(hg:w.grownBy w' (some g))(ho':Own w' g ys)(hl:ys.length=xs.length):Zbk w' b hi ms:=by
 obtain⟨c,n,q,p⟩:=h
 have a:some b≠some g:=fun e=>by injection e with e;omega
 refine⟨Nat.lt_of_lt_of_le c hg.size,n,fun j=>(Zb6 c hg a).trans (q j),fun j m=>?_⟩
 obtain⟨⟨u,c0⟩,l,k,f,d,c1,i,o⟩:=p j m
 refine⟨⟨u,(Zcl c hg a).trans c0⟩,l,?_⟩
 by_cases e:l=g
 · subst e
   have r:xs.length=k.length:=by
    unfold Own at ho o
    rw [ho] at o
    injection o with o
    injection o with o
    have:=congrArg Array.size o
    simpa [Zds] using this
   exact⟨ys,f,d,(Zcl c hg a).trans c1,by omega,ho'⟩
 · exact⟨k,f,d,(Zcl c hg a).trans c1,i,o.grown hg e⟩
theorem Zbk.below{w w':World}{b hi:Nat}{ms:List Mk}(h:Zbk w b hi ms)(hh:hi<=w.heap.size)(hb:Below w.heap.size w w'):Zbk w' b hi ms:=by
 obtain⟨c,m,q,n⟩:=h
 have e:w.grownBy w' none:=⟨hb.os,hb.tape,hb.output,hb.size,fun i hi _=>hb.block i hi⟩
 refine⟨Nat.lt_of_lt_of_le c hb.size,m,fun j=>(Zb6 c e (by simp)).trans (q j),fun j f=>?_⟩
 obtain⟨⟨v,c0⟩,g,k,d,a,c1,l,o⟩:=n j f
 exact⟨⟨v,(hb.cell (p:=⟨b,j*2,none⟩) c).trans c0⟩,g,k,d,a,(hb.cell (p:=⟨b,j*2+1,none⟩) c).trans c1,l,o.below (Nat.lt_of_lt_of_le a hh) hb⟩
def Sta(S:Nat->Prop)(w w':World):Prop:=w.heap.size<=w'.heap.size/\∀b,S b->w'.heap[b]? =w.heap[b]?
def Cgd(S:Nat->Prop)(w w':World):Prop:=w'.os=w.os/\w'.tape=w.tape/\w'.output=w.output/\w.heap.size<=w'.heap.size/\∀b,b<w.heap.size->¬S b->w'.heap[b]? =w.heap[b]?
theorem Sta.refl(S:Nat->Prop)(w:World):Sta S w w:=⟨Nat.le_refl _,fun _ _=>rfl⟩
theorem Sta.trans{S:Nat->Prop}{a b c:World}(h:Sta S a b)(k:Sta S b c):Sta S a c:=⟨Nat.le_trans h.1 k.1,fun i hi=>(k.2 i hi).trans (h.2 i hi)⟩
theorem Sta.mono{S T:Nat->Prop}{a b:World}(h:Sta S a b)(k:∀i,T i->S i):Sta T a b:=⟨h.1,fun i hi=>h.2 i (k i hi)⟩
theorem Sta.below{S:Nat->Prop}{a b:World}(L:Below a.heap.size a b)(hb:∀i,S i->i<a.heap.size):Sta S a b:=⟨L.size,fun i hi=>L.block i (hb i hi)⟩
theorem Sta.cell{S:Nat->Prop}{a b:World}(h:Sta S a b){g:Nat}(hg:S g)(i:Nat):b.cell? ⟨g,i,none⟩=a.cell? ⟨g,i,none⟩:=World.cell?_of_block (h.2 g hg)
theorem Cgd.refl(S:Nat->Prop)(w:World):Cgd S w w:=⟨rfl,rfl,rfl,Nat.le_refl _,fun _ _ _=>rfl⟩
theorem Cgd.trans{S:Nat->Prop}{a b c:World}(h:Cgd S a b)(k:Cgd S b c):Cgd S a c:=
 ⟨k.1.trans h.1,k.2.1.trans h.2.1,k.2.2.1.trans h.2.2.1,Nat.le_trans h.2.2.2.1 k.2.2.2.1,fun i hi hs=>(k.2.2.2.2 i (Nat.lt_of_lt_of_le hi h.2.2.2.1) hs).trans (h.2.2.2.2 i hi hs)⟩
theorem Cgd.mono{S T:Nat->Prop}{a b:World}(h:Cgd S a b)(k:∀i,S i->T i):Cgd T a b:=⟨h.1,h.2.1,h.2.2.1,h.2.2.2.1,fun i hi hs=>h.2.2.2.2 i hi (fun e=>hs (k i e))⟩
theorem Cgd.of{S:Nat->Prop}{a b:World}(L:Below a.heap.size a b):Cgd S a b:=⟨L.os,L.tape,L.output,L.size,fun i hi _=>L.block i hi⟩
theorem Cgd.below{S:Nat->Prop}{a b:World}{base:Nat}(h:Cgd S a b)(hb:base<=a.heap.size)(hs:∀i,S i->base<=i):Below base a b:=
 ⟨h.1,h.2.1,h.2.2.1,h.2.2.2.1,fun i hi=>h.2.2.2.2 i (Nat.lt_of_lt_of_le hi hb) (fun e=>by have:=hs i e;omega)⟩
theorem Cgd.sm{S T:Nat->Prop}{a b:World}(h:Cgd S a b)(ht:∀i,T i->i<a.heap.size)(hd:∀i,T i->¬S i):Sta T a b:=⟨h.2.2.2.1,fun i hi=>h.2.2.2.2 i (ht i hi) (hd i hi)⟩
def Btw(lo hi:Nat)(b:Nat):Prop:=lo<=b/\b<hi
structure Ow(fm fh:Nat)(S:Nat->Prop)(w:World)(v:Value)(N:Nat):Prop where
 bnd:∀b,S b->b<w.heap.size
 act:∀w',Sta S w w'->∀k0:Int,1<=k0->k0+N<=1000000->Calls Tryz.prog fm #[v,.int .i64 k0] w' fun e w2=>e=.returned (.int .i64 (k0+N))/\Cgd S w' w2/\∀W,Sta S w2 W->Calls Tryz.prog fh #[v,.int .i64 k0] W fun e W'=>e=.returned (.int .i64 (k0+N))/\Below W.heap.size W W'
theorem Ow.sm{fm fh:Nat}{S:Nat->Prop}{w w':World}{v:Value}{N:Nat}(h:Ow fm fh S w v N)(k:Sta S w w'):Ow fm fh S w' v N:=
 ⟨fun b hb=>Nat.lt_of_lt_of_le (h.bnd b hb) k.1,fun w2 k2=>h.act w2 (k.trans k2)⟩
theorem Ow.mono{fm fh:Nat}{S T:Nat->Prop}{w:World}{v:Value}{N:Nat}(h:Ow fm fh S w v N)(ht:∀b,T b->b<w.heap.size)(k:∀b,S b->T b):Ow fm fh T w v N:=
 ⟨ht,fun w' hs k0 h0 h1=>(h.act w' (hs.mono k) k0 h0 h1).mono (fun _ _ ⟨e,c,r⟩=>⟨e,c.mono k,fun W hw=>r W (hw.mono k)⟩)⟩
def Hd(fh:Nat)(S:Nat->Prop)(w:World)(v:Value)(k0 k1:Int):Prop:=∀W,Sta S w W->Calls Tryz.prog fh #[v,.int .i64 k0] W fun e W'=>e=.returned (.int .i64 k1)/\Below W.heap.size W W'
theorem Hd.sm{fh:Nat}{S:Nat->Prop}{w w':World}{v:Value}{k0 k1:Int}(h:Hd fh S w v k0 k1)(k:Sta S w w'):Hd fh S w' v k0 k1:=fun W hw=>h W (k.trans hw)
theorem ZgI(w:World):(callFunc 251 #[]).run Tryz.prog w=.ok (.value (.tuple #[])) w:=run_call_mark0 Tryz.func251 (by kernel_rfl) (by kernel_rfl) (by kernel_rfl) .disable (by kernel_rfl) w
theorem Zix(w:World):(callFunc 253 #[]).run Tryz.prog w=.ok (.value (.tuple #[])) w:=run_call_mark0 Tryz.func253 (by kernel_rfl) (by kernel_rfl) (by kernel_rfl) .enable (by kernel_rfl) w
theorem Zlk(a:Addr)(w:World):(callFunc 254 #[.pointer (some a)]).run Tryz.prog w=.ok (.value (.tuple #[])) w:=run_call_marked Tryz.func254 (by kernel_rfl) (by kernel_rfl) (by kernel_rfl) .acquire (by kernel_rfl) a w
theorem Zot(a:Addr)(w:World):(callFunc 256 #[.pointer (some a)]).run Tryz.prog w=.ok (.value (.tuple #[])) w:=run_call_marked Tryz.func256 (by kernel_rfl) (by kernel_rfl) (by kernel_rfl) .releaseMerge (by kernel_rfl) a w
theorem Zll(a:Addr)(w:World)(hc:w.cell? a=some (.int .i32 0))(hz:w.frozen? a=false):
 Calls Tryz.prog 240 #[.pointer (some a)] w fun e w'=>e=.returned (.tuple #[])/\w'=w.setCell a (.int .i32 1):=by
 have h:=ZgI
 have g:=Zix
 have f:=Zlk
 have c:=run_call_cas_hit (P:=Tryz.prog) Tryz.func252 (by kernel_rfl) (by kernel_rfl) (by kernel_rfl) .i32 (by kernel_rfl) (y:=1) hc hz
 have b:(w.setCell a (.int .i32 1)).cell? a=some (.int .i32 1):=World.cell?_setCell_same w a _ hc
 have d:=run_convert_to_unsafe (P:=Tryz.prog) (src:=275) (dst:=279) Tryz.underlying275 Tryz.underlying279 (by kernel_rfl) b
 go_enter Tryz.func240,Tryz.ntmps240
 go_wp2
 refine bodyPost_ret (results_none rfl _ _ _) rfl ?_
 exact⟨rfl,rfl⟩
theorem Zpy(a:Addr)(w:World)(hc:w.cell? a=some (.int .i32 0))(hz:w.frozen? a=false):
 Calls Tryz.prog 224 #[.pointer (some a)] w fun e w'=>e=.returned (.tuple #[])/\w'=w.setCell a (.int .i32 1):=by
 go_enter Tryz.func224,Tryz.ntmps224
 go_wp2_with (go_at_call 240;refine (Zll a _ hc hz).mono ?_;rintro e w' ⟨rfl,rfl⟩)
 go_end0
 exact⟨rfl,rfl⟩
theorem Ziy(a:Addr)(w:World)(hc:w.cell? a=some (.int .i32 1))(hz:w.frozen? a=false):
 Calls Tryz.prog 241 #[.pointer (some a)] w fun e w'=>e=.returned (.tuple #[])/\w'=w.setCell a (.int .i32 0):=by
 have g:=ZgI
 have f:=Zix
 have d:=Zot
 have b:=run_call_add (P:=Tryz.prog) Tryz.func257 (by kernel_rfl) (by kernel_rfl) (by kernel_rfl) .i32 (by kernel_rfl) (y:=-1) (s:=0) hc hz (by simp [go_sem];rfl)
 have c:=run_convert_to_unsafe (P:=Tryz.prog) (src:=275) (dst:=279) Tryz.underlying275 Tryz.underlying279 (by kernel_rfl) hc
 go_enter Tryz.func241,Tryz.ntmps241
 go_wp2
 go_end0
 exact⟨rfl,rfl⟩
theorem Zna(a:Addr)(u:FrameMode)(w:World)(hc:w.cell? a=some (.int .i32 1))(hz:w.frozen? a=false):
 CallsD Tryz.prog 225 #[.pointer (some a)] u w fun e u' w'=>u'=u/\(e=.returned (.tuple #[])/\w'=w.setCell a (.int .i32 0)):=by
 go_enter_d Tryz.func225,Tryz.ntmps225
 go_wp2_with (go_at_call 241;refine (Ziy a _ hc hz).mono ?_;rintro e w' ⟨rfl,rfl⟩)
 go_end0
 exact⟨rfl,rfl⟩
theorem Znb(a:Addr)(x:Value)(u:FrameMode)(w:World)(hc:w.cell? a=some x)(hz:w.frozen? a=false):
 CallsD Tryz.prog 226 #[.pointer (some a),.bool true] u w fun e u' w'=>u'=u/\(e=.returned (.tuple #[])/\w'=w.drew.setCell a (.int .u32 1)):=by
 have c:w.drew.cell? a=some x:=by go_simp
 have b:w.drew.frozen? a=false:=by go_simp
 have d:=run_call_store (P:=Tryz.prog) Tryz.func242 (by kernel_rfl) (by kernel_rfl) (by kernel_rfl) (by kernel_rfl) (k:=.u32) (y:=1) c b
 go_enter_d Tryz.func226,Tryz.ntmps226
 go_wp2
 go_region_calls
 all_goals (go_end0;exact⟨rfl,rfl⟩)
theorem ZfX(a:Addr)(x:Int)(w:World)(hc:w.cell? a=some (.int .u32 x)):
 Calls Tryz.prog 208 #[.pointer (some a)] w fun e w'=>e=.returned (.bool (x !=0))/\w'=w:=by
 have b:=run_call_load (P:=Tryz.prog) Tryz.func223 (by kernel_rfl) (by kernel_rfl) (by kernel_rfl) .u32 (by kernel_rfl) hc
 go_enter Tryz.func208,Tryz.ntmps208
 go_wp2
 go_ret
 exact⟨rfl,rfl⟩
theorem Zpz(b:Nat)(pl:Addr)(d:Int)(w:World)(hp:w.cell? pl=some (.pointer (some ⟨b,0,none⟩)))(h3:w.cell? ⟨b,3,none⟩=some (.int .i64 d))(f3:w.frozen? ⟨b,3,none⟩=false):
 Calls Tryz.prog 192 #[.pointer (some pl)] w fun e w'=>e=.returned (.tuple #[])/\w'=w.drew.setCell ⟨b,3,none⟩ (.int .i64 (Zan d)):=by
 have j:w.drew.cell? pl=some (.pointer (some ⟨b,0,none⟩)):=by go_simp
 have i:w.drew.cell? ⟨b,3,none⟩=some (.int .i64 d):=by go_simp
 have h:w.drew.frozen? ⟨b,3,none⟩=false:=by go_simp
 have f:Tryz.prog.follows .mixedOrders=true:=by kernel_rfl
 have g:=Za (Zos d)
 go_enter Tryz.func192,Tryz.ntmps192
 go_wp2_with fail
 refine Zay (S:=fun X=>X=w.drew) (fuel:=3) [0,1,2,3,4] _ rfl (by kernel_rfl) (by kernel_rfl) (by kernel_rfl) (by kernel_rfl) (by kernel_rfl) (by kernel_rfl) (by kernel_rfl) rfl (fun k=>?_)
 simp only [List.pop_toArray,List.dropLast]
 iterate 5
  refine⟨_,rfl,?_⟩
  apply Exists.intro
  refine⟨Or.inl ⟨by rfl,fun w' c=>?_⟩,?_⟩
  · subst c
    first
    | (go_simp;done)
    | (go_simp;with_reducible rfl)
  simp only [Act.put,tkgZ]
 refine Zc 5 (by kernel_rfl) rfl (fun K a=>?_)
 go_simp
 refine (g.out _).mono ?_
 rintro e l ⟨rfl,rfl⟩
 refine a.out _ _ rfl (fun _=>?_)
 clear a K
 refine Zc 6 (by kernel_rfl) rfl (fun K a=>?_)
 go_simp
 refine a.out _ _ rfl (fun _=>?_)
 clear a K
 refine Zc 7 (by kernel_rfl) rfl (fun K a=>?_)
 go_simp
 refine a.out _ _ rfl (fun _=>?_)
 clear a K
 refine wpAnyH_done (by kernel_rfl) ?_ _
 simp only [Exit.then]
 go_wp2_with fail
 refine NoPanic.normal ?_
 go_end0
 exact⟨rfl,rfl⟩
theorem ZpA(b:Nat)(pl:Addr)(hpb:¬b=pl.block)(d:Int)(w:World)(hp:w.cell? pl=some (.pointer (some ⟨b,0,none⟩)))
 (h0:w.cell? ⟨b,0,none⟩=some (.int .u32 0)) (h1:w.cell? ⟨b,1,none⟩=some (.int .i32 0)) (h3:w.cell? ⟨b,3,none⟩=some (.int .i64 d))
 (f0:w.frozen? ⟨b,0,none⟩=false) (f1:w.frozen? ⟨b,1,none⟩=false) (f3:w.frozen? ⟨b,3,none⟩=false):
 Calls Tryz.prog 209 #[.pointer (some ⟨b,0,none⟩),.func (.func 192) #[] #[.pointer (some pl)]] w fun e w'=>e=.returned (.tuple #[])/\
  w'=((((w.setCell ⟨b,1,none⟩ (.int .i32 1)).setCell ⟨b,3,none⟩ (.int .i64 (Zan d))).drew.drew.setCell ⟨b,0,none⟩ (.int .u32 1)).setCell ⟨b,1,none⟩ (.int .i32 0)):=by
 have m:=Za (ZfX ⟨b,0,none⟩ 0 (w.setCell ⟨b,1,none⟩ (.int .i32 1)) ((World.cell?_setCell_other _ ⟨b,1,none⟩ ⟨b,0,none⟩ _ (by simp)).trans h0))
 have a:(w.setCell ⟨b,1,none⟩ (.int .i32 1)).cell? pl=some (.pointer (some ⟨b,0,none⟩)):=(World.cell?_setCell_other _ ⟨b,1,none⟩ pl _ (fun h=>hpb (by rw [<-h]))).trans hp
 have c:(w.setCell ⟨b,1,none⟩ (.int .i32 1)).cell? ⟨b,3,none⟩=some (.int .i64 d):=(World.cell?_setCell_other _ ⟨b,1,none⟩ ⟨b,3,none⟩ _ (by simp)).trans h3
 have k:=Za (Zpy ⟨b,1,none⟩ w h1 f1)
 have j:=Za (Zpz b pl d (w.setCell ⟨b,1,none⟩ (.int .i32 1)) a c (by simp [f3]))
 have i:∀(x:Bool) (w:World),(Op.unary .not (.bool x)).run Tryz.prog w=.ok (.bool (!x)) w:=fun _ _=>rfl
 go_enter_defers Tryz.func209,Tryz.ntmps209
 go_wp2_with fail
 refine k.out.mono ?_
 rintro e w' ⟨rfl,rfl⟩
 go_wp2_with fail
 refine m.out.mono ?_
 rintro e w' ⟨rfl,rfl⟩
 go_wp2_with fail
 refine j.out.mono ?_
 rintro e w' ⟨rfl,rfl⟩
 go_wp2_with fail
 refine leaves_cons (f:=226) (args:=#[.pointer (some ⟨b,0,none⟩),.bool true]) (by simp) (by simp [go_sem]) ?_
 refine (Znb ⟨b,0,none⟩ (.int .u32 0) .returning _ ?_ (by simp [f0])).mono ?_
 · first | exact (World.cell?_setCell_other _ ⟨b,3,none⟩ ⟨b,0,none⟩ _ (by simp)).trans ((World.cell?_drew _ _).trans ((World.cell?_setCell_other _ ⟨b,1,none⟩ ⟨b,0,none⟩ _ (by simp)).trans h0)) | exact (World.cell?_drew _ _).trans ((World.cell?_setCell_other _ ⟨b,3,none⟩ ⟨b,0,none⟩ _ (by simp)).trans ((World.cell?_setCell_other _ ⟨b,1,none⟩ ⟨b,0,none⟩ _ (by simp)).trans h0))
 rintro e l g ⟨rfl,rfl,rfl⟩
 refine leaves_cons (f:=225) (args:=#[.pointer (some ⟨b,1,none⟩)]) (by simp [settle]) (by simp [go_sem]) ?_
 refine (Zna ⟨b,1,none⟩ _ _ ?_ (by simp [f1])).mono ?_
 · refine (World.cell?_setCell_other _ ⟨b,0,none⟩ ⟨b,1,none⟩ _ (by simp)).trans ?_
   rw [World.cell?_drew,World.cell?_drew]
   refine (World.cell?_setCell_other _ ⟨b,3,none⟩ ⟨b,1,none⟩ _ (by simp)).trans ?_
   exact World.cell?_setCell_same w _ _ h1
 rintro e l g ⟨rfl,rfl,rfl⟩
 simp [Leaves,settle,results,Tryz.results209]
theorem Zou(b:Nat)(pl:Addr)(hpb:¬b=pl.block)(d:Int)(w:World)(hp:w.cell? pl=some (.pointer (some ⟨b,0,none⟩)))
 (h0:w.cell? ⟨b,0,none⟩=some (.int .u32 0)) (h1:w.cell? ⟨b,1,none⟩=some (.int .i32 0)) (h3:w.cell? ⟨b,3,none⟩=some (.int .i64 d))
 (f0:w.frozen? ⟨b,0,none⟩=false) (f1:w.frozen? ⟨b,1,none⟩=false) (f3:w.frozen? ⟨b,3,none⟩=false):
 Calls Tryz.prog 191 #[.pointer (some ⟨b,0,none⟩),.func (.func 192) #[] #[.pointer (some pl)]] w fun e w'=>e=.returned (.tuple #[])/\
  w'=((((w.setCell ⟨b,1,none⟩ (.int .i32 1)).setCell ⟨b,3,none⟩ (.int .i64 (Zan d))).drew.drew.setCell ⟨b,0,none⟩ (.int .u32 1)).setCell ⟨b,1,none⟩ (.int .i32 0)):=by
 have a:=Za (ZfX ⟨b,0,none⟩ 0 w h0)
 have c:=Za (ZpA b pl hpb d w hp h0 h1 h3 f0 f1 f3)
 go_enter Tryz.func191,Tryz.ntmps191
 go_wp2_with fail
 refine a.out.mono ?_
 rintro e w' ⟨rfl,rfl⟩
 go_wp2_with fail
 refine c.out.mono ?_
 rintro e w' ⟨rfl,rfl⟩
 go_wp2_with fail
 go_end0
 exact⟨rfl,rfl⟩
theorem ZpB(a:Addr)(fv:Value)(w:World)(h0:w.cell? a=some (.int .u32 1)):
 Calls Tryz.prog 191 #[.pointer (some a),fv] w fun e w'=>e=.returned (.tuple #[])/\w'=w:=by
 have b:=Za (ZfX a 1 w h0)
 go_enter Tryz.func191,Tryz.ntmps191
 go_wp2_with fail
 refine b.out.mono ?_
 rintro e w' ⟨rfl,rfl⟩
 go_wp2_with fail
 go_end0
 exact⟨rfl,rfl⟩
theorem ZeR(w:World):w.drew.heap=w.heap:=rfl
theorem Znc{w:World}{q:Nat}{a b c d:Value}{t:TypeId}(h:w.heap[q]? =some (.cells #[a,b,c,d] t (0,0)))(x y z u:Value):((((w.setCell ⟨q,1,none⟩ x).setCell ⟨q,3,none⟩ y).drew.drew.setCell ⟨q,0,none⟩ z).setCell ⟨q,1,none⟩ u).heap[q]? =some (.cells #[z,u,c,y] t (0,0)):=by
 have g:=heap_setCell_same w q 1 _ t x h
 have i:=heap_setCell_same (w.setCell ⟨q,1,none⟩ x) q 3 _ t y g
 have f:=heap_setCell_same ((w.setCell ⟨q,1,none⟩ x).setCell ⟨q,3,none⟩ y).drew.drew q 0 _ t z i
 have e:=heap_setCell_same _ q 1 _ t u f
 exact e
def Thr(w:World)(b:Nat)(done:Bool)(d:Int):Prop:=w.heap[b]? =some (.cells #[.int .u32 (if done then 1 else 0),.int .i32 0,.int .u32 0,.int .i64 d] 214 (0,0))
theorem Thr.lt{w:World}{b:Nat}{o:Bool}{d:Int}(h:Thr w b o d):b<w.heap.size:=(Array.getElem?_eq_some_iff.1 h).1
theorem Thr.at{w:World}{b:Nat}{o:Bool}{d:Int}(h:Thr w b o d):w.cell? ⟨b,0,none⟩=some (.int .u32 (if o then 1 else 0))/\w.cell? ⟨b,1,none⟩=some (.int .i32 0)/\w.cell? ⟨b,3,none⟩=some (.int .i64 d)/\(∀i,w.frozen? ⟨b,i,none⟩=false):=by
 unfold Thr at h
 refine⟨by simp [World.cell?,h],by simp [World.cell?,h],by simp [World.cell?,h],fun i=>by simp [World.frozen?,h]⟩
theorem Thr.sm{w w':World}{b:Nat}{o:Bool}{d:Int}(h:Thr w b o d)(k:w'.heap[b]? =w.heap[b]?):Thr w' b o d:=k.trans h
theorem Zmy(b:Nat)(d:Int)(w:World)(ht:Thr w b false d):
 Calls Tryz.prog 171 #[.pointer (some ⟨b,0,none⟩)] w fun e w'=>e=.returned (.int .i64 (Zan d))/\Thr w' b true (Zan d)/\Cgd (fun i=>i=b) w w':=by
 have u:=ht.lt
 obtain⟨W,l⟩:∃W,w.alloc (.cells #[.pointer (some ⟨b,0,none⟩)] 201)=W:=⟨_,rfl⟩
 have m:=balZ l
 have s:W.cell? ⟨w.heap.size,0,none⟩=some (.pointer (some ⟨b,0,none⟩)):=by rw [<-l];simp
 have q:=altZ l
 have f:Thr W b false d:=ht.sm (m.block b u)
 obtain⟨r,p,n,h⟩:=f.at
 have o:=Za (Zou b ⟨w.heap.size,0,none⟩ (by show ¬(b=w.heap.size);omega) d W s r p n (h 0) (h 1) (h 3))
 obtain⟨V,j⟩:∃V,((((W.setCell ⟨b,1,none⟩ (.int .i32 1)).setCell ⟨b,3,none⟩ (.int .i64 (Zan d))).drew.drew.setCell ⟨b,0,none⟩ (.int .u32 1)).setCell ⟨b,1,none⟩ (.int .i32 0))=V:=⟨_,rfl⟩
 rw [j] at o
 have c:Thr V b true (Zan d):=by
  unfold Thr at f ⊢
  rw [<-j]
  exact Znc f _ _ _ _
 have k:Cgd (fun i=>i=b) W V:=by
  rw [<-j]
  refine⟨rfl,rfl,rfl,by simp,fun i _ g=>?_⟩
  rw [Below.heap_setCell _ _ _ i g,Below.heap_setCell _ _ _ i g,ZeR,ZeR,Below.heap_setCell _ _ _ i g,Below.heap_setCell _ _ _ i g]
 have x:V.cell? ⟨w.heap.size,0,none⟩=some (.pointer (some ⟨b,0,none⟩)):=(World.cell?_of_block (w:=W) (a:=⟨w.heap.size,0,none⟩) (k.2.2.2.2 _ q (by show ¬(w.heap.size=b);omega))).trans s
 have v:=c.at.2.2.1
 have t:Hid (Thr V b true (Zan d)/\Cgd (fun i=>i=b) w V):=⟨c,(Cgd.of m).trans k⟩
 clear c k j f r p n h m q ht
 go_enter Tryz.func171,Tryz.ntmps171
 go_wp2_with fail
 refine o.out.mono ?_
 rintro e w' ⟨rfl,rfl⟩
 go_wp2_with fail
 go_ret
 exact⟨rfl,t.out⟩
theorem Zmz(b:Nat)(d:Int)(w:World)(ht:Thr w b true d):
 Calls Tryz.prog 171 #[.pointer (some ⟨b,0,none⟩)] w fun e w'=>e=.returned (.int .i64 d)/\Below w.heap.size w w':=by
 have h:=ht.lt
 obtain⟨W,f⟩:∃W,w.alloc (.cells #[.pointer (some ⟨b,0,none⟩)] 201)=W:=⟨_,rfl⟩
 have a:=balZ f
 have n:W.cell? ⟨w.heap.size,0,none⟩=some (.pointer (some ⟨b,0,none⟩)):=by rw [<-f];simp
 have c:Thr W b true d:=ht.sm (a.block b h)
 obtain⟨g,l,m,i⟩:=c.at
 have j:=Za (ZpB ⟨b,0,none⟩ (.func (.func 192) #[] #[.pointer (some ⟨w.heap.size,0,none⟩)]) W g)
 have k:=Za a
 clear c g l i a ht
 go_enter Tryz.func171,Tryz.ntmps171
 go_wp2_with fail
 refine j.out.mono ?_
 rintro e w' ⟨rfl,rfl⟩
 go_wp2_with fail
 go_ret
 exact⟨rfl,k.out⟩
end Go.Proofs.YtilkaeclgmcolaaGreat
