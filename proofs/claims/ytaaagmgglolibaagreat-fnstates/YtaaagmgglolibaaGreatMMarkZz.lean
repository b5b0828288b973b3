import Derived.Test.YtaaagmgglolibaaGreatMCellsZz
import Derived.Test.YtaaagmgglolibaaGreatMovedSZz
import Derived.Test.YtaaagmgglolibaaGreatMCopyZz
import Derived.Test.YtaaagmgglolibaaGreatLastZz
import Derived.Tactics
import Derived.Tactics2
import Derived.Defers
import Derived.Laws.Pointers
import Derived.Laws.LoneSync
import Derived.RegionTactic
import Derived.RegionCalls
import Derived.ChangeAlike
import Derived.Laws.NewBlocks
set_option maxRecDepth 100000
set_option maxHeartbeats 1600000
namespace Go.Proofs.YtaaagmgglolibaaGreat
open Go Go.RowKit
def Sta(S:Nat->Prop)(w w':World):Prop:=w.heap.size<=w'.heap.size/\∀b,S b->w'.heap[b]? =w.heap[b]?
def Cgd(S:Nat->Prop)(w w':World):Prop:=w'.os=w.os/\w'.tape=w.tape/\w'.output=w.output/\w.heap.size<=w'.heap.size/\∀b,b<w.heap.size->¬S b->w'.heap[b]? =w.heap[b]?
theorem Sta.refl(S:Nat->Prop)(w:World):Sta S w w:=⟨Nat.le_refl _,fun _ _=>rfl⟩
theorem Sta.trans{S:Nat->Prop}{a b c:World}(h:Sta S a b)(k:Sta S b c):Sta S a c:=⟨Nat.le_trans h.1 k.1,fun i hi=>(k.2 i hi).trans (h.2 i hi)⟩
theorem Sta.mono{S T:Nat->Prop}{a b:World}(h:Sta S a b)(k:∀i,T i->S i):Sta T a b:=⟨h.1,fun i hi=>h.2 i (k i hi)⟩
theorem Sta.below{S:Nat->Prop}{a b:World}(L:Below a.heap.size a b)(hb:∀i,S i->i<a.heap.size):Sta S a b:=⟨L.size,fun i hi=>L.block i (hb i hi)⟩
theorem Sta.cell{S:Nat->Prop}{a b:World}(h:Sta S a b){g:Nat}(hg:S g)(i:Nat):b.cell? ⟨g,i,none⟩=a.cell? ⟨g,i,none⟩:=World.cell?_of_block (h.2 g hg)
theorem Cgd.refl(S:Nat->Prop)(w:World):Cgd S w w:=⟨rfl,rfl,rfl,Nat.le_refl _,fun _ _ _=>rfl⟩
theorem Cgd.trans{S:Nat->Prop}{a b c:World}(h:Cgd S a b)(k:Cgd S b c):Cgd S a c:=
 ⟨k.1.trans h.1,k.2.1.trans h.2.1,k.2.2.1.trans h.2.2.1,Nat.le_trans h.2.2.2.1 k.2.2.2.1,fun i hi hs=>(k.2.2.2.2 i (Nat.lt_of_lt_of_le hi h.2.2.2.1) hs).trans (h.2.2.2.2 i hi hs)⟩
theorem Cgd.mono{S T:Nat->Prop}{a b:World}(h:Cgd S a b)(k:∀i,S i->T i):Cgd T a b:=⟨h.1,h.2.1,h.2.2.1,h.2.2.2.1,fun i hi hs=>h.2.2.2.2 i hi (fun e=>hs (k i e))⟩
theorem Cgd.of{S:Nat->Prop}{a b:World}(L:Below a.heap.size a b):Cgd S a b:=⟨L.os,L.tape,L.output,L.size,fun i hi _=>L.block i hi⟩
theorem Cgd.below{S:Nat->Prop}{a b:World}{base:Nat}(h:Cgd S a b)(hb:base<=a.heap.size)(hs:∀i,S i->base<=i):Below base a b:=
 ⟨h.1,h.2.1,h.2.2.1,h.2.2.2.1,fun i hi=>h.2.2.2.2 i (Nat.lt_of_lt_of_le hi hb) (fun e=>by have:=hs i e;omega)⟩
theorem Cgd.sm{S T:Nat->Prop}{a b:World}(h:Cgd S a b)(ht:∀i,T i->i<a.heap.size)(hd:∀i,T i->¬S i):Sta T a b:=⟨h.2.2.2.1,fun i hi=>h.2.2.2.2 i (ht i hi) (hd i hi)⟩
def Btw(lo hi:Nat)(b:Nat):Prop:=lo<=b/\b<hi
structure Ow(fm fh:Nat)(S:Nat->Prop)(w:World)(v:Value)(N:Nat):Prop where
 bnd:∀b,S b->b<w.heap.size
 act:∀w',Sta S w w'->∀k0:Int,1<=k0->k0+N<=1000000->Calls Tryz.prog fm #[v,.int .i64 k0] w' fun e w2=>e=.returned (.int .i64 (k0+N))/\Cgd S w' w2/\∀W,Sta S w2 W->Calls Tryz.prog fh #[v,.int .i64 k0] W fun e W'=>e=.returned (.int .i64 (k0+N))/\Below W.heap.size W W'
theorem Ow.sm{fm fh:Nat}{S:Nat->Prop}{w w':World}{v:Value}{N:Nat}(h:Ow fm fh S w v N)(k:Sta S w w'):Ow fm fh S w' v N:=
 ⟨fun b hb=>Nat.lt_of_lt_of_le (h.bnd b hb) k.1,fun w2 k2=>h.act w2 (k.trans k2)⟩
theorem Ow.mono{fm fh:Nat}{S T:Nat->Prop}{w:World}{v:Value}{N:Nat}(h:Ow fm fh S w v N)(ht:∀b,T b->b<w.heap.size)(k:∀b,S b->T b):Ow fm fh T w v N:=
 ⟨ht,fun w' hs k0 h0 h1=>(h.act w' (hs.mono k) k0 h0 h1).mono (fun _ _ ⟨e,c,r⟩=>⟨e,c.mono k,fun W hw=>r W (hw.mono k)⟩)⟩
def Hd(fh:Nat)(S:Nat->Prop)(w:World)(v:Value)(k0 k1:Int):Prop:=∀W,Sta S w W->Calls Tryz.prog fh #[v,.int .i64 k0] W fun e W'=>e=.returned (.int .i64 k1)/\Below W.heap.size W W'
theorem Hd.sm{fh:Nat}{S:Nat->Prop}{w w':World}{v:Value}{k0 k1:Int}(h:Hd fh S w v k0 k1)(k:Sta S w w'):Hd fh S w' v k0 k1:=fun W hw=>h W (k.trans hw)
theorem Zgg(w:World):(callFunc 311 #[]).run Tryz.prog w=.ok (.value (.tuple #[])) w:=run_call_mark0 Tryz.func311 (by kernel_rfl) (by kernel_rfl) (by kernel_rfl) .disable (by kernel_rfl) w
theorem ZhU(w:World):(callFunc 313 #[]).run Tryz.prog w=.ok (.value (.tuple #[])) w:=run_call_mark0 Tryz.func313 (by kernel_rfl) (by kernel_rfl) (by kernel_rfl) .enable (by kernel_rfl) w
theorem ZkC(a:Addr)(w:World):(callFunc 314 #[.pointer (some a)]).run Tryz.prog w=.ok (.value (.tuple #[])) w:=run_call_marked Tryz.func314 (by kernel_rfl) (by kernel_rfl) (by kernel_rfl) .acquire (by kernel_rfl) a w
theorem Znm(a:Addr)(w:World):(callFunc 316 #[.pointer (some a)]).run Tryz.prog w=.ok (.value (.tuple #[])) w:=run_call_marked Tryz.func316 (by kernel_rfl) (by kernel_rfl) (by kernel_rfl) .releaseMerge (by kernel_rfl) a w
theorem ZkD(a:Addr)(w:World)(hc:w.cell? a=some (.int .i32 0))(hz:w.frozen? a=false):
 Calls Tryz.prog 294 #[.pointer (some a)] w fun e w'=>e=.returned (.tuple #[])/\w'=w.setCell a (.int .i32 1):=by
 have hd:=Zgg
 have he:=ZhU
 have ha:=ZkC
 have hcas:=run_call_cas_hit (P:=Tryz.prog) Tryz.func312 (by kernel_rfl) (by kernel_rfl) (by kernel_rfl) .i32 (by kernel_rfl) (y:=1) hc hz
 have hc':(w.setCell a (.int .i32 1)).cell? a=some (.int .i32 1):=World.cell?_setCell_same w a _ hc
 have hcv:=run_convert_to_unsafe (P:=Tryz.prog) (src:=336) (dst:=340) Tryz.underlying336 Tryz.underlying340 (by kernel_rfl) hc'
 go_enter Tryz.func294,Tryz.ntmps294
 go_wp2
 refine bodyPost_ret (results_none rfl _ _ _) rfl ?_
 exact⟨rfl,rfl⟩
theorem Zos(a:Addr)(w:World)(hc:w.cell? a=some (.int .i32 0))(hz:w.frozen? a=false):
 Calls Tryz.prog 270 #[.pointer (some a)] w fun e w'=>e=.returned (.tuple #[])/\w'=w.setCell a (.int .i32 1):=by
 go_enter Tryz.func270,Tryz.ntmps270
 go_wp2_with (go_at_call 294;refine (ZkD a _ hc hz).mono ?_;rintro e w' ⟨rfl,rfl⟩)
 go_end0
 exact⟨rfl,rfl⟩
theorem ZhV(a:Addr)(w:World)(hc:w.cell? a=some (.int .i32 1))(hz:w.frozen? a=false):
 Calls Tryz.prog 295 #[.pointer (some a)] w fun e w'=>e=.returned (.tuple #[])/\w'=w.setCell a (.int .i32 0):=by
 have hd:=Zgg
 have he:=ZhU
 have hr:=Znm
 have hadd:=run_call_add (P:=Tryz.prog) Tryz.func317 (by kernel_rfl) (by kernel_rfl) (by kernel_rfl) .i32 (by kernel_rfl) (y:=-1) (s:=0) hc hz (by simp [go_sem];rfl)
 have hcv:=run_convert_to_unsafe (P:=Tryz.prog) (src:=336) (dst:=340) Tryz.underlying336 Tryz.underlying340 (by kernel_rfl) hc
 go_enter Tryz.func295,Tryz.ntmps295
 go_wp2
 go_end0
 exact⟨rfl,rfl⟩
theorem Zmd(a:Addr)(u:FrameMode)(w:World)(hc:w.cell? a=some (.int .i32 1))(hz:w.frozen? a=false):
 CallsD Tryz.prog 271 #[.pointer (some a)] u w fun e u' w'=>u'=u/\(e=.returned (.tuple #[])/\w'=w.setCell a (.int .i32 0)):=by
 go_enter_d Tryz.func271,Tryz.ntmps271
 go_wp2_with (go_at_call 295;refine (ZhV a _ hc hz).mono ?_;rintro e w' ⟨rfl,rfl⟩)
 go_end0
 exact⟨rfl,rfl⟩
theorem Zme(a:Addr)(x:Value)(u:FrameMode)(w:World)(hc:w.cell? a=some x)(hz:w.frozen? a=false):
 CallsD Tryz.prog 272 #[.pointer (some a),.bool true] u w fun e u' w'=>u'=u/\(e=.returned (.tuple #[])/\w'=w.drew.setCell a (.int .u32 1)):=by
 have hc':w.drew.cell? a=some x:=by go_simp
 have hz':w.drew.frozen? a=false:=by go_simp
 have hst:=run_call_store (P:=Tryz.prog) Tryz.func296 (by kernel_rfl) (by kernel_rfl) (by kernel_rfl) (by kernel_rfl) (k:=.u32) (y:=1) hc' hz'
 go_enter_d Tryz.func272,Tryz.ntmps272
 go_wp2
 go_region_calls
 all_goals (go_end0;exact⟨rfl,rfl⟩)
theorem Zfv(a:Addr)(x:Int)(w:World)(hc:w.cell? a=some (.int .u32 x)):
 Calls Tryz.prog 236 #[.pointer (some a)] w fun e w'=>e=.returned (.bool (x !=0))/\w'=w:=by
 have hl:=run_call_load (P:=Tryz.prog) Tryz.func269 (by kernel_rfl) (by kernel_rfl) (by kernel_rfl) .u32 (by kernel_rfl) hc
 go_enter Tryz.func236,Tryz.ntmps236
 go_wp2
 go_ret
 exact⟨rfl,rfl⟩
theorem Zot(b:Nat)(pl:Addr)(d:Int)(w:World)(hp:w.cell? pl=some (.pointer (some ⟨b,0,none⟩)))(h3:w.cell? ⟨b,3,none⟩=some (.int .i64 d))(f3:w.frozen? ⟨b,3,none⟩=false):
 Calls Tryz.prog 183 #[.pointer (some pl)] w fun e w'=>e=.returned (.tuple #[])/\w'=w.drew.setCell ⟨b,3,none⟩ (.int .i64 (Zad d)):=by
 have hp':w.drew.cell? pl=some (.pointer (some ⟨b,0,none⟩)):=by go_simp
 have h3':w.drew.cell? ⟨b,3,none⟩=some (.int .i64 d):=by go_simp
 have f3':w.drew.frozen? ⟨b,3,none⟩=false:=by go_simp
 have hmix:Tryz.prog.follows .mixedOrders=true:=by kernel_rfl
 have HR:=Za (Znk d)
 go_enter Tryz.func183,Tryz.ntmps183
 go_wp2_with fail
 refine ZT (S:=fun X=>X=w.drew) (fuel:=3) [0,1,2,3,4] _ rfl (by kernel_rfl) (by kernel_rfl) (by kernel_rfl) (by kernel_rfl) (by kernel_rfl) (by kernel_rfl) (by kernel_rfl) rfl (fun hS=>?_)
 simp only [List.pop_toArray,List.dropLast]
 iterate 5
  refine⟨_,rfl,?_⟩
  apply Exists.intro
  refine⟨Or.inl ⟨by rfl,fun w' hw'=>?_⟩,?_⟩
  · subst hw'
    first
    | (go_simp;done)
    | (go_simp;with_reducible rfl)
  simp only [Act.put,List.getElem_toArray,List.getElem_cons_succ,List.getElem_cons_zero,List.setIfInBounds_toArray,List.set_cons_zero,List.set_cons_succ]
 refine Zc 5 (by kernel_rfl) rfl (fun K hK=>?_)
 go_simp
 refine (HR.out _).mono ?_
 rintro e w7 ⟨rfl,rfl⟩
 refine hK.out _ _ rfl (fun _=>?_)
 clear hK K
 refine Zc 6 (by kernel_rfl) rfl (fun K hK=>?_)
 go_simp
 refine hK.out _ _ rfl (fun _=>?_)
 clear hK K
 refine Zc 7 (by kernel_rfl) rfl (fun K hK=>?_)
 go_simp
 refine hK.out _ _ rfl (fun _=>?_)
 clear hK K
 refine wpAnyH_done (by kernel_rfl) ?_ _
 simp only [Exit.then]
 go_wp2_with fail
 refine NoPanic.normal ?_
 go_end0
 exact⟨rfl,rfl⟩
theorem Zou(b:Nat)(pl:Addr)(hpb:¬b=pl.block)(d:Int)(w:World)(hp:w.cell? pl=some (.pointer (some ⟨b,0,none⟩)))
 (h0:w.cell? ⟨b,0,none⟩=some (.int .u32 0)) (h1:w.cell? ⟨b,1,none⟩=some (.int .i32 0)) (h3:w.cell? ⟨b,3,none⟩=some (.int .i64 d))
 (f0:w.frozen? ⟨b,0,none⟩=false) (f1:w.frozen? ⟨b,1,none⟩=false) (f3:w.frozen? ⟨b,3,none⟩=false):
 Calls Tryz.prog 237 #[.pointer (some ⟨b,0,none⟩),.func (.func 183) #[] #[.pointer (some pl)]] w fun e w'=>e=.returned (.tuple #[])/\
  w'=((((w.setCell ⟨b,1,none⟩ (.int .i32 1)).setCell ⟨b,3,none⟩ (.int .i64 (Zad d))).drew.drew.setCell ⟨b,0,none⟩ (.int .u32 1)).setCell ⟨b,1,none⟩ (.int .i32 0)):=by
 have HL:=Za (Zfv ⟨b,0,none⟩ 0 (w.setCell ⟨b,1,none⟩ (.int .i32 1)) ((World.cell?_setCell_other _ ⟨b,1,none⟩ ⟨b,0,none⟩ _ (by simp)).trans h0))
 have hp1:(w.setCell ⟨b,1,none⟩ (.int .i32 1)).cell? pl=some (.pointer (some ⟨b,0,none⟩)):=(World.cell?_setCell_other _ ⟨b,1,none⟩ pl _ (fun h=>hpb (by rw [<-h]))).trans hp
 have h31:(w.setCell ⟨b,1,none⟩ (.int .i32 1)).cell? ⟨b,3,none⟩=some (.int .i64 d):=(World.cell?_setCell_other _ ⟨b,1,none⟩ ⟨b,3,none⟩ _ (by simp)).trans h3
 have HK:=Za (Zos ⟨b,1,none⟩ w h1 f1)
 have HR:=Za (Zot b pl d (w.setCell ⟨b,1,none⟩ (.int .i32 1)) hp1 h31 (by simp [f3]))
 have hnot:∀(x:Bool) (w:World),(Op.unary .not (.bool x)).run Tryz.prog w=.ok (.bool (!x)) w:=fun _ _=>rfl
 go_enter_defers Tryz.func237,Tryz.ntmps237
 go_wp2_with fail
 refine HK.out.mono ?_
 rintro e w' ⟨rfl,rfl⟩
 go_wp2_with fail
 refine HL.out.mono ?_
 rintro e w' ⟨rfl,rfl⟩
 go_wp2_with fail
 refine HR.out.mono ?_
 rintro e w' ⟨rfl,rfl⟩
 go_wp2_with fail
 refine leaves_cons (f:=272) (args:=#[.pointer (some ⟨b,0,none⟩),.bool true]) (by simp) (by simp [go_sem]) ?_
 refine (Zme ⟨b,0,none⟩ (.int .u32 0) .returning _ ?_ (by simp [f0])).mono ?_
 · first | exact (World.cell?_setCell_other _ ⟨b,3,none⟩ ⟨b,0,none⟩ _ (by simp)).trans ((World.cell?_drew _ _).trans ((World.cell?_setCell_other _ ⟨b,1,none⟩ ⟨b,0,none⟩ _ (by simp)).trans h0)) | exact (World.cell?_drew _ _).trans ((World.cell?_setCell_other _ ⟨b,3,none⟩ ⟨b,0,none⟩ _ (by simp)).trans ((World.cell?_setCell_other _ ⟨b,1,none⟩ ⟨b,0,none⟩ _ (by simp)).trans h0))
 rintro e u' w'' ⟨rfl,rfl,rfl⟩
 refine leaves_cons (f:=271) (args:=#[.pointer (some ⟨b,1,none⟩)]) (by simp [settle]) (by simp [go_sem]) ?_
 refine (Zmd ⟨b,1,none⟩ _ _ ?_ (by simp [f1])).mono ?_
 · refine (World.cell?_setCell_other _ ⟨b,0,none⟩ ⟨b,1,none⟩ _ (by simp)).trans ?_
   rw [World.cell?_drew,World.cell?_drew]
   refine (World.cell?_setCell_other _ ⟨b,3,none⟩ ⟨b,1,none⟩ _ (by simp)).trans ?_
   exact World.cell?_setCell_same w _ _ h1
 rintro e u' w'' ⟨rfl,rfl,rfl⟩
 simp [Leaves,settle,results,Tryz.results237]
theorem Znn(b:Nat)(pl:Addr)(hpb:¬b=pl.block)(d:Int)(w:World)(hp:w.cell? pl=some (.pointer (some ⟨b,0,none⟩)))
 (h0:w.cell? ⟨b,0,none⟩=some (.int .u32 0)) (h1:w.cell? ⟨b,1,none⟩=some (.int .i32 0)) (h3:w.cell? ⟨b,3,none⟩=some (.int .i64 d))
 (f0:w.frozen? ⟨b,0,none⟩=false) (f1:w.frozen? ⟨b,1,none⟩=false) (f3:w.frozen? ⟨b,3,none⟩=false):
 Calls Tryz.prog 182 #[.pointer (some ⟨b,0,none⟩),.func (.func 183) #[] #[.pointer (some pl)]] w fun e w'=>e=.returned (.tuple #[])/\
  w'=((((w.setCell ⟨b,1,none⟩ (.int .i32 1)).setCell ⟨b,3,none⟩ (.int .i64 (Zad d))).drew.drew.setCell ⟨b,0,none⟩ (.int .u32 1)).setCell ⟨b,1,none⟩ (.int .i32 0)):=by
 have HL:=Za (Zfv ⟨b,0,none⟩ 0 w h0)
 have HS:=Za (Zou b pl hpb d w hp h0 h1 h3 f0 f1 f3)
 go_enter Tryz.func182,Tryz.ntmps182
 go_wp2_with fail
 refine HL.out.mono ?_
 rintro e w' ⟨rfl,rfl⟩
 go_wp2_with fail
 refine HS.out.mono ?_
 rintro e w' ⟨rfl,rfl⟩
 go_wp2_with fail
 go_end0
 exact⟨rfl,rfl⟩
theorem Zov(a:Addr)(fv:Value)(w:World)(h0:w.cell? a=some (.int .u32 1)):
 Calls Tryz.prog 182 #[.pointer (some a),fv] w fun e w'=>e=.returned (.tuple #[])/\w'=w:=by
 have HL:=Za (Zfv a 1 w h0)
 go_enter Tryz.func182,Tryz.ntmps182
 go_wp2_with fail
 refine HL.out.mono ?_
 rintro e w' ⟨rfl,rfl⟩
 go_wp2_with fail
 go_end0
 exact⟨rfl,rfl⟩
theorem ZeE(w:World):w.drew.heap=w.heap:=rfl
theorem Zmf{w:World}{q:Nat}{a b c d:Value}{t:TypeId}(h:w.heap[q]? =some (.cells #[a,b,c,d] t (0,0)))(x y z u:Value):((((w.setCell ⟨q,1,none⟩ x).setCell ⟨q,3,none⟩ y).drew.drew.setCell ⟨q,0,none⟩ z).setCell ⟨q,1,none⟩ u).heap[q]? =some (.cells #[z,u,c,y] t (0,0)):=by
 have h1:=heap_setCell_same w q 1 _ t x h
 have h2:=heap_setCell_same (w.setCell ⟨q,1,none⟩ x) q 3 _ t y h1
 have h3:=heap_setCell_same ((w.setCell ⟨q,1,none⟩ x).setCell ⟨q,3,none⟩ y).drew.drew q 0 _ t z h2
 have h4:=heap_setCell_same _ q 1 _ t u h3
 exact h4
def Thr(w:World)(b:Nat)(done:Bool)(d:Int):Prop:=w.heap[b]? =some (.cells #[.int .u32 (if done then 1 else 0),.int .i32 0,.int .u32 0,.int .i64 d] 151 (0,0))
theorem Thr.lt{w:World}{b:Nat}{o:Bool}{d:Int}(h:Thr w b o d):b<w.heap.size:=(Array.getElem?_eq_some_iff.1 h).1
theorem Thr.at{w:World}{b:Nat}{o:Bool}{d:Int}(h:Thr w b o d):w.cell? ⟨b,0,none⟩=some (.int .u32 (if o then 1 else 0))/\w.cell? ⟨b,1,none⟩=some (.int .i32 0)/\w.cell? ⟨b,3,none⟩=some (.int .i64 d)/\(∀i,w.frozen? ⟨b,i,none⟩=false):=by
 unfold Thr at h
 refine⟨by simp [World.cell?,h],by simp [World.cell?,h],by simp [World.cell?,h],fun i=>by simp [World.frozen?,h]⟩
theorem Thr.sm{w w':World}{b:Nat}{o:Bool}{d:Int}(h:Thr w b o d)(k:w'.heap[b]? =w.heap[b]?):Thr w' b o d:=k.trans h
theorem Zlu(b:Nat)(d:Int)(w:World)(ht:Thr w b false d):
 Calls Tryz.prog 103 #[.pointer (some ⟨b,0,none⟩)] w fun e w'=>e=.returned (.int .i64 (Zad d))/\Thr w' b true (Zad d)/\Cgd (fun i=>i=b) w w':=by
 have hb:=ht.lt
 obtain⟨W,hW⟩:∃W,w.alloc (.cells #[.pointer (some ⟨b,0,none⟩)] 137)=W:=⟨_,rfl⟩
 have hB:Below w.heap.size w W:=by rw [<-hW];exact (Below.refl _ _).alloc (Nat.le_refl _) _
 have p0:W.cell? ⟨w.heap.size,0,none⟩=some (.pointer (some ⟨b,0,none⟩)):=by rw [<-hW];simp
 have hX:w.heap.size<W.heap.size:=by rw [<-hW];simp
 have hT:Thr W b false d:=ht.sm (hB.block b hb)
 obtain⟨a0,a1,a3,fz⟩:=hT.at
 have HF:=Za (Znn b ⟨w.heap.size,0,none⟩ (by show ¬(b=w.heap.size);omega) d W p0 a0 a1 a3 (fz 0) (fz 1) (fz 3))
 obtain⟨V,hV⟩:∃V,((((W.setCell ⟨b,1,none⟩ (.int .i32 1)).setCell ⟨b,3,none⟩ (.int .i64 (Zad d))).drew.drew.setCell ⟨b,0,none⟩ (.int .u32 1)).setCell ⟨b,1,none⟩ (.int .i32 0))=V:=⟨_,rfl⟩
 rw [hV] at HF
 have hTV:Thr V b true (Zad d):=by
  unfold Thr at hT ⊢
  rw [<-hV]
  exact Zmf hT _ _ _ _
 have hC:Cgd (fun i=>i=b) W V:=by
  rw [<-hV]
  refine⟨rfl,rfl,rfl,by simp,fun i _ hn=>?_⟩
  rw [Below.heap_setCell _ _ _ i hn,Below.heap_setCell _ _ _ i hn,ZeE,ZeE,Below.heap_setCell _ _ _ i hn,Below.heap_setCell _ _ _ i hn]
 have p1:V.cell? ⟨w.heap.size,0,none⟩=some (.pointer (some ⟨b,0,none⟩)):=(World.cell?_of_block (w:=W) (a:=⟨w.heap.size,0,none⟩) (hC.2.2.2.2 _ hX (by show ¬(w.heap.size=b);omega))).trans p0
 have a3':=hTV.at.2.2.1
 have HR:Hid (Thr V b true (Zad d)/\Cgd (fun i=>i=b) w V):=⟨hTV,(Cgd.of hB).trans hC⟩
 clear hTV hC hV hT a0 a1 a3 fz hB hX ht
 go_enter Tryz.func103,Tryz.ntmps103
 go_wp2_with fail
 refine HF.out.mono ?_
 rintro e w' ⟨rfl,rfl⟩
 go_wp2_with fail
 go_ret
 exact⟨rfl,HR.out⟩
theorem Zlv(b:Nat)(d:Int)(w:World)(ht:Thr w b true d):
 Calls Tryz.prog 103 #[.pointer (some ⟨b,0,none⟩)] w fun e w'=>e=.returned (.int .i64 d)/\Below w.heap.size w w':=by
 have hb:=ht.lt
 obtain⟨W,hW⟩:∃W,w.alloc (.cells #[.pointer (some ⟨b,0,none⟩)] 137)=W:=⟨_,rfl⟩
 have hB:Below w.heap.size w W:=by rw [<-hW];exact (Below.refl _ _).alloc (Nat.le_refl _) _
 have p0:W.cell? ⟨w.heap.size,0,none⟩=some (.pointer (some ⟨b,0,none⟩)):=by rw [<-hW];simp
 have hT:Thr W b true d:=ht.sm (hB.block b hb)
 obtain⟨a0,a1,a3,fz⟩:=hT.at
 have HF:=Za (Zov ⟨b,0,none⟩ (.func (.func 183) #[] #[.pointer (some ⟨w.heap.size,0,none⟩)]) W a0)
 have HB:=Za hB
 clear hT a0 a1 fz hB ht
 go_enter Tryz.func103,Tryz.ntmps103
 go_wp2_with fail
 refine HF.out.mono ?_
 rintro e w' ⟨rfl,rfl⟩
 go_wp2_with fail
 go_ret
 exact⟨rfl,HB.out⟩
end Go.Proofs.YtaaagmgglolibaaGreat
