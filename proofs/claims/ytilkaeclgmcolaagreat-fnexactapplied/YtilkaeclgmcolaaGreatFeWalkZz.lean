import Derived.Test.YtilkaeclgmcolaaGreatFeSpecZz
import Derived.Test.YtilkaeclgmcolaaGreatWithZz
import Derived.Test.YtilkaeclgmcolaaGreatLastZz
import Derived.Test.YtilkaeclgmcolaaGreatMRowZz
import Derived.Test.YtilkaeclgmcolaaGreatGKeepZz
set_option maxRecDepth 100000
set_option maxHeartbeats 4000000
namespace Go.Proofs.YtilkaeclgmcolaaGreat
open Go Go.RowKit
theorem Row.same{base:Nat}{w w':World}{g c:Nat}{xs:List Int}(h:Row base w g c xs)(e:w'.heap[g]? =w.heap[g]?):Row base w' g c xs:=by
 refine⟨h.1,?_⟩
 rcases h.2 with hn | ⟨g',cap,cur,e1,hb,hgg,rest⟩
 · exact .inl hn
 · refine .inr ⟨g',cap,cur,e1,hb,?_,rest⟩
   injection e1 with e2 e3 e4
   injection e2 with e5
   injection e5 with e6
   rw [<-e6,e,e6]
   exact hgg
theorem Row.next{base B:Nat}{w w':World}{g c:Nat}{xs:List Int}(h:Row base w g c xs)(hw:Below B w w')(hB:g<B):Row base w' g c xs:=h.same (hw.block g hB)
theorem Row.mono14{base base':Nat}{w:World}{g c:Nat}{xs:List Int}(h:Row base w g c xs)(hb:base'<=base):Row base' w g c xs:=⟨h.1,h.2.imp id fun ⟨g',cap,cur,e,hg,r⟩=>⟨g',cap,cur,e,Nat.le_trans hb hg,r⟩⟩
theorem Zg3{base:Nat}{w:World}{g c n:Nat}{xs:List Int}(h:Row base w g c xs)(hn:xs.length=n):w.ownsRow base 2 1 (.slice (some ⟨g,0,none⟩) n c) n (xs.map (Value.int .i64)):=by
 subst hn;exact h
theorem Zz{P:Program}{Q:Exit->Act->World->Prop}{ops:Array Oper}{S:World->Prop}{listed:Array Bool}{a:Act}{w:World}{n:Nat}(fuel:Nat)(calm:List Nat)(hn:n=fuel+calm.length)(hs:Region.noSelect ops=true)(hc:Zc3 .any ops listed calm=true)(hS:S w)
 (h:ZdK P ops S (fun a'=>wpAnyH P .any ops (NoPanic Q) S fuel (Zi9 listed calm) a' w) calm a):wpAnyH P .any ops (NoPanic Q) S n listed a w:=by
 subst hn
 exact Zby (P:=P) (md:=.any) (Q:=NoPanic Q) (ops:=ops) (S:=S) (w:=w) hs (fun c a d v w h=>h) hS calm fuel listed a hc h (fun a' b=>b)
theorem ZA{P:Program}{md:Region.Mode}{Q:Exit->Act->World->Prop}{ops:Array Oper}{S:World->Prop}{fuel:Nat}{listed:Array Bool}{a:Act}{w:World}{o o2:Oper}(i j:Nat)(hr:Region.ready md ops listed=[i,j])(ho:ops[i]? =some o)(ho2:ops[j]? =some o2)
 (h:∀K:Act->World->Prop,Shut (∀a w,S w->(S w->wpAnyH P md ops Q S fuel (listed.setIfInBounds i true) a w)->K a w)->if Region.wanted o (yielded ops a.tmps)=true then Oper.wp P o a w K Q else K (a.put o.dst undef) w)
 (h2:∀K:Act->World->Prop,Shut (∀a w,S w->(S w->wpAnyH P md ops Q S fuel (listed.setIfInBounds j true) a w)->K a w)->if Region.wanted o2 (yielded ops a.tmps)=true then Oper.wp P o2 a w K Q else K (a.put o2.dst undef) w):wpAnyH P md ops Q S (fuel+1) listed a w:=
 wpAnyH_ready hr (by simp) (AllReadyH.cons ho h (AllReadyH.cons ho2 h2 AllReadyH.nil))
theorem Z9{w:World}{ao:Option Addr}{ys:List Int}(h:Zy w ao ys):ZX w 1 ao ys.length (ys.map (Value.int .i64)):=by
 refine⟨by simp,fun u a=>?_,?_⟩
 · obtain⟨y,_,rfl⟩:=List.mem_map.1 a;rfl
 · rcases h with h | ⟨b,off,e,_,hs⟩
   · left;rw [h];rfl
   · right
     refine⟨⟨b,off,none⟩,e,fun j u a=>?_⟩
     rw [List.getElem?_map] at a
     rcases Nat.lt_or_ge j ys.length with hj | hj
     · rw [List.getElem?_eq_getElem hj] at a
       simp at a
       rw [Addr.add_lit,hs j hj,<-a]
       simp [nth,List.getD,hj]
     · rw [List.getElem?_eq_none hj] at a;cases a
theorem Zem{w:World}{n b cp:Nat}{id:Int}{xs:List Int}(hb:w.heap[n]? =some (.cells #[.int .i64 id,.slice (some ⟨b,0,none⟩) xs.length cp] 161 (0,0))):ZX w 2 (some ⟨n,0,none⟩) 1 [.int .i64 id,.slice (some ⟨b,0,none⟩) xs.length cp]:=
 ⟨rfl,by simp [Value.oneCell'],Or.inr ⟨_,rfl,World.news_of_block (cs:=#[.int .i64 id,.slice (some ⟨b,0,none⟩) xs.length cp]) hb⟩⟩
theorem Zbl{base:Nat}{w:World}{g c n:Nat}{xs:List Int}(h:w.ownsRow base 2 1 (.slice (some ⟨g,0,none⟩) (0+n) c) (0+n) ([]++xs.map (Value.int .i64)))(hn:n=xs.length):Row base w g c xs:=by
 subst hn
 simpa [Row] using h
theorem Zma(ao:Option Addr)(cap:Nat)(ms:List Mk)(w:World)(hv:Zo w ao ms)(h60:ms.length<=60)(h4:∀i,(mat ms i).length<=4):
 Calls Tryz.prog 121 #[.slice ao ms.length cap] w fun e w'=>∃g c ds,e=.returned (.slice (some ⟨g,0,none⟩) ms.length c)/\Z2 w.heap.size w' g c ds/\Zs ds=ms/\Below w.heap.size w w':=by
 obtain⟨i0,a6,a4,ak,a9⟩:=info_parts Tryz.info2
 obtain⟨j0,ah,ab,ac,ad⟩:=info_parts Tryz.info161
 have R0:=Za (Z2.start w w.heap.size (Nat.le_refl _))
 have L0:=Za ((Below.refl w.heap.size w).alloc (Nat.le_refl _) (.cells #[] 161))
 go_enter Tryz.func121,Tryz.ntmps121
 go_wp2_with fail
 go_loopw [3,4] (fun v i wr=>∃(k g c:Nat) (ds:List Dm),k<=ms.length/\i=.int .i64 k/\v=.slice (some ⟨g,0,none⟩) k c/\ds.length=k/\Z2 w.heap.size wr g c ds/\Zs ds=ms.take k/\Below w.heap.size w wr) (fun _ i _=>ms.length-(intOf i).toNat)
 case atStart=>exact⟨0,w.heap.size,0,[],Nat.zero_le _,rfl,rfl,rfl,R0.out,rfl,L0.out⟩
 case round=>
  clear R0 L0
  obtain⟨k,g,c,ds,hk,rfl,rfl,T,hrow,U,L⟩:=hrel
  have HR:=Za hrow
  have HD:=Za U
  have HL:=Za L
  have M:=Za T
  have hz:=L.size
  have aH:=hrow.lt
  by_cases hlt:k<ms.length
  · obtain⟨b,l,rfl,hb,C⟩:=Zel hv (by omega)
    obtain⟨af,ae,ce,a5,W⟩:=(C.below hb (Nat.le_refl _) L).at hlt
    have aN:(mid ms k,mat ms k)=ZJ ms k:=rfl
    have aC:=h4 k
    have au:=n0Z k
    have aw:(k:Int)<(ms.length:Int):=by omega
    have V:b<wr.heap.size:=by omega
    have ag:=Za W
    have aj:Hid (Zs (ds++[(mid ms k,wr.heap.size,0,mat ms k)])=ms.take (k+1)):=by
     show _=_
     rw [Zs,List.map_append,<-Zs,HD.out,List.take_add_one]
     congr 1
     simp [mid,mat,List.getD,hlt]
    clear hrow U L T C W
    go_wp2_with fail
    have m:Hid (∀J,Below wr.heap.size wr J->J.cell? ⟨b,l+k*2,none⟩=some (.int .i64 (mid ms k))/\J.cell? ⟨b,l+k*2+1,none⟩=some (.slice ae (mat ms k).length ce)):=fun J L'=>⟨(L'.cell (p:=⟨b,l+k*2,none⟩) V).trans af,(L'.cell (p:=⟨b,l+k*2+1,none⟩) V).trans a5⟩
    have BL:=Za ((Below.refl wr.heap.size wr).drew)
    refine Zl (S:=fun J=>J.cell? ⟨b,l+k*2,none⟩=some (.int .i64 (mid ms k))/\J.cell? ⟨b,l+k*2+1,none⟩=some (.slice ae (mat ms k).length ce)) (fuel:=6) [0,1,2,3,4,5,7,8,9,10,11] (by kernel_rfl) (by kernel_rfl) (by kernel_rfl) (by kernel_rfl) (m.out _ BL.out) (fun _=>?_)
    iterate 11 (refine⟨_,rfl,?_⟩;apply Exists.intro;refine⟨Or.inl ⟨by rfl,fun w' u=>?_⟩,?_⟩;(focus (obtain⟨e1,e2⟩:=u;go_simp<;>with_reducible rfl));simp only [Act.put,tkgZ])
    refine Zc 6 (by kernel_rfl) rfl (fun K s=>?_)
    go_simp
    obtain⟨O,o⟩:∃O,(wr.alloc (.cells #[] 2)).drew=O:=⟨_,rfl⟩
    have B:Hid (Below wr.heap.size wr O):=by show Below _ _ _;rw [<-o];exact ((Below.refl wr.heap.size wr).alloc (Nat.le_refl _) _).drew
    have X:Hid (Row w.heap.size O wr.heap.size 0 []):=by show Row _ _ _ _ _;rw [<-o];exact Row.start wr w.heap.size hz
    have aF:O.heap.size=wr.heap.size+1:=by rw [<-o];simp
    rw [o]
    clear o
    refine s.out _ _ (m.out _ B.out) (fun _=>?_)
    clear s K
    refine Zc 12 (by kernel_rfl) rfl (fun K s=>?_)
    refine Zj O rfl (.tmp 18) (.tmp 23) 31 rfl w.heap.size 2 i0 _ 1 8 Tryz.underlying31 a6 a4 ak a9 rfl (by omega) wr.heap.size 0 0 [] rfl X.out ae (mat ms k).length ce ((mat ms k).map (Value.int .i64)) rfl (Z9 (Zy.next ag.out B.out)) (by unfold maxLen;omega) (by omega) (by omega) O.heap.size rfl ?_
    intro F H y t j D ar
    have z:Hid (Row w.heap.size y F H (mat ms k)):=Zbl t rfl
    have aM:=j.size
    have A:Hid (Below wr.heap.size wr y):=B.out.grown j (by omega) (by intro q hq;cases hq;omega)
    clear t j
    refine s.out _ _ (m.out _ A.out) (fun _=>?_)
    clear s K
    refine Zz 3 [13] (by kernel_rfl) (by kernel_rfl) (by kernel_rfl) (m.out _ A.out) ?_
    iterate 1 (refine⟨_,rfl,?_⟩;apply Exists.intro;refine⟨Or.inl ⟨by rfl,fun w' u=>?_⟩,?_⟩;(focus (obtain⟨e1,e2⟩:=u;go_simp<;>with_reducible rfl));simp only [Act.put,tkgZ])
    refine Zc 14 (by kernel_rfl) rfl (fun K s=>?_)
    go_simp
    obtain⟨E,x⟩:∃E,y.alloc (.cells #[.int .i64 (mid ms k),.slice (some ⟨F,0,none⟩) (mat ms k).length H] 161)=E:=⟨_,rfl⟩
    have Y:Hid (E.heap[y.heap.size]? =some (.cells #[.int .i64 (mid ms k),.slice (some ⟨F,0,none⟩) (mat ms k).length H] 161 (0,0))):=by show _=_;rw [<-x];exact heap_alloc_new y _
    have G:=balZ x
    have aJ:=salZ x
    have f:=Za (Zb A.out G)
    have Q:=Za (z.out.next G z.out.lt2.2)
    have aE:=z.out.lt2
    have I:=Za (HR.out.kept (r:=none) ⟨f.out.os,f.out.tape,f.out.output,f.out.size,fun i hi _=>f.out.block i hi⟩ (by simp))
    try rw [Nat.zero_add]
    try rw [x]
    clear x G
    refine s.out _ _ (m.out _ f.out) (fun _=>?_)
    clear s K
    refine Zc 15 (by kernel_rfl) rfl (fun K s=>?_)
    refine Zj E rfl (.tmp 12) (.tmp 26) 36 rfl w.heap.size 161 j0 _ 2 32 Tryz.underlying36 ah ab ac ad rfl (by omega) g k c (ZG ds) rfl (by have h:=I.out.1;rw [M.out] at h;exact h) (some ⟨y.heap.size,0,none⟩) 1 1 [.int .i64 (mid ms k),.slice (some ⟨F,0,none⟩) (mat ms k).length H] rfl (Zem Y.out) (by unfold maxLen;omega) (by omega) (by omega) E.heap.size rfl ?_
    intro g8 c8 w8 n a P aq
    have ai:Hid (Z2 w.heap.size w8 g8 c8 (ds++[(mid ms k,F,H,mat ms k)])):=Z2.snoc I.out Q.out (by rcases D with e | e <;> omega) (fun d hd=>by
     have h1:=(HR.out.2.1 d hd).1.lt2
     rcases D with e | e <;> omega) (by rw [M.out];exact n) a (by rcases P with e | e;exact Or.inl e.symm;exact Or.inr e)
    have a7:Hid (Below w.heap.size w w8):=(Zb HL.out f.out).grown a (by omega) (by intro q hq;cases hq;omega)
    have N:Hid (w8.cell? ⟨b,l+k*2,none⟩=some (.int .i64 (mid ms k))/\w8.cell? ⟨b,l+k*2+1,none⟩=some (.slice ae (mat ms k).length ce)):=by
     have R:=a.block b (by omega) (by simp;omega)
     exact⟨(World.cell?_of_block R).trans (m.out _ f.out).1,(World.cell?_of_block R).trans (m.out _ f.out).2⟩
    clear n a
    refine s.out _ _ N.out (fun _=>?_)
    clear s K
    refine ZB [16] rfl (by kernel_rfl) (by kernel_rfl) (by kernel_rfl) N.out ?_
    iterate 1 (refine⟨_,rfl,?_⟩;apply Exists.intro;refine⟨Or.inl ⟨by rfl,fun w' u=>?_⟩,?_⟩;(focus (obtain⟨e1,e2⟩:=u;go_simp<;>with_reducible rfl));simp only [Act.put,tkgZ])
    refine NoPanic.normal (NoPanic.normal ?_)
    have Z:Hid (Zs (ds++[(mid ms k,F,H,mat ms k)])=ms.take (k+1)):=by
     have h:=aj.out
     simp only [Zs,List.map_append,List.map_cons,List.map_nil] at h ⊢
     exact h
    clear m BL B X A z f Q I Y N
    go_wp2_with fail
    go_roundw
    case rel=>exact⟨k+1,g8,c8,ds++[(mid ms k,F,H,mat ms k)],by omega,by go_num,rfl,by have:=M.out;simp;omega,ai.out,Z.out,a7.out⟩
    case measure=>simp [intOf];omega
  · obtain rfl:k=ms.length:=by omega
    have e1:Zs ds=ms:=by rw [HD.out,List.take_length]
    go_wp2_with fail
    go_ret
    exact⟨g,c,ds,rfl,HR.out,e1,L⟩
end Go.Proofs.YtilkaeclgmcolaaGreat
