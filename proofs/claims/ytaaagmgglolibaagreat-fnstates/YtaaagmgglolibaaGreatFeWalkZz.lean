import Derived.Test.YtaaagmgglolibaaGreatFeSpecZz
import Derived.Test.YtaaagmgglolibaaGreatWithZz
import Derived.Test.YtaaagmgglolibaaGreatLastZz
import Derived.Test.YtaaagmgglolibaaGreatMRowZz
import Derived.Test.YtaaagmgglolibaaGreatGKeepZz
set_option maxRecDepth 100000
set_option maxHeartbeats 4000000
namespace Go.Proofs.YtaaagmgglolibaaGreat
open Go Go.RowKit
theorem Row.same{base:Nat}{w w':World}{g c:Nat}{xs:List Int}(h:Row base w g c xs)(e:w'.heap[g]? =w.heap[g]?):Row base w' g c xs:=by
 refine⟨h.1,?_⟩
 rcases h.2 with hn | ⟨g',cap,cur,e1,hb,hgg,rest⟩
 · exact .inl hn
 · refine .inr ⟨g',cap,cur,e1,hb,?_,rest⟩
   injection e1 with e2 e3 e4
   injection e2 with e5
   injection e5 with e6
   rw [<-e6,e,e6]
   exact hgg
theorem Row.next{base B:Nat}{w w':World}{g c:Nat}{xs:List Int}(h:Row base w g c xs)(hw:Below B w w')(hB:g<B):Row base w' g c xs:=h.same (hw.block g hB)
theorem Row.mono14{base base':Nat}{w:World}{g c:Nat}{xs:List Int}(h:Row base w g c xs)(hb:base'<=base):Row base' w g c xs:=⟨h.1,h.2.imp id fun ⟨g',cap,cur,e,hg,r⟩=>⟨g',cap,cur,e,Nat.le_trans hb hg,r⟩⟩
theorem Zgx{base:Nat}{w:World}{g c n:Nat}{xs:List Int}(h:Row base w g c xs)(hn:xs.length=n):w.ownsRow base 2 1 (.slice (some ⟨g,0,none⟩) n c) n (xs.map (Value.int .i64)):=by
 subst hn;exact h
theorem Zo{P:Program}{Q:Exit->Act->World->Prop}{ops:Array Oper}{S:World->Prop}{listed:Array Bool}{a:Act}{w:World}{n:Nat}(fuel:Nat)(calm:List Nat)(hn:n=fuel+calm.length)(hs:Region.noSelect ops=true)(hc:ZcO .any ops listed calm=true)(hS:S w)
 (h:Zdu P ops S (fun a'=>wpAnyH P .any ops (NoPanic Q) S fuel (Zir listed calm) a' w) calm a):wpAnyH P .any ops (NoPanic Q) S n listed a w:=by
 subst hn
 exact Zby (P:=P) (md:=.any) (Q:=NoPanic Q) (ops:=ops) (S:=S) (w:=w) hs (fun c a d v w h=>h) hS calm fuel listed a hc h (fun a' h'=>h')
theorem ZD{P:Program}{md:Region.Mode}{Q:Exit->Act->World->Prop}{ops:Array Oper}{S:World->Prop}{fuel:Nat}{listed:Array Bool}{a:Act}{w:World}{o o2:Oper}(i j:Nat)(hr:Region.ready md ops listed=[i,j])(ho:ops[i]? =some o)(ho2:ops[j]? =some o2)
 (h:∀K:Act->World->Prop,Shut (∀a w,S w->(S w->wpAnyH P md ops Q S fuel (listed.setIfInBounds i true) a w)->K a w)->if Region.wanted o (yielded ops a.tmps)=true then Oper.wp P o a w K Q else K (a.put o.dst undef) w)
 (h2:∀K:Act->World->Prop,Shut (∀a w,S w->(S w->wpAnyH P md ops Q S fuel (listed.setIfInBounds j true) a w)->K a w)->if Region.wanted o2 (yielded ops a.tmps)=true then Oper.wp P o2 a w K Q else K (a.put o2.dst undef) w):wpAnyH P md ops Q S (fuel+1) listed a w:=
 wpAnyH_ready hr (by simp) (AllReadyH.cons ho h (AllReadyH.cons ho2 h2 AllReadyH.nil))
theorem ZY{w:World}{ao:Option Addr}{ys:List Int}(h:Zs w ao ys):ZV w 1 ao ys.length (ys.map (Value.int .i64)):=by
 refine⟨by simp,fun u hu=>?_,?_⟩
 · obtain⟨y,_,rfl⟩:=List.mem_map.1 hu;rfl
 · rcases h with h | ⟨b,off,e,_,hs⟩
   · left;rw [h];rfl
   · right
     refine⟨⟨b,off,none⟩,e,fun j u hu=>?_⟩
     rw [List.getElem?_map] at hu
     rcases Nat.lt_or_ge j ys.length with hj | hj
     · rw [List.getElem?_eq_getElem hj] at hu
       simp at hu
       rw [Addr.add_lit,hs j hj,<-hu]
       simp [nth,List.getD,hj]
     · rw [List.getElem?_eq_none hj] at hu;cases hu
theorem Zc9{w:World}{n b cp:Nat}{id:Int}{xs:List Int}(hb:w.heap[n]? =some (.cells #[.int .i64 id,.slice (some ⟨b,0,none⟩) xs.length cp] 29 (0,0))):ZV w 2 (some ⟨n,0,none⟩) 1 [.int .i64 id,.slice (some ⟨b,0,none⟩) xs.length cp]:=
 ⟨rfl,by simp [Value.oneCell'],Or.inr ⟨_,rfl,World.news_of_block (cs:=#[.int .i64 id,.slice (some ⟨b,0,none⟩) xs.length cp]) hb⟩⟩
theorem Zbm{base:Nat}{w:World}{g c n:Nat}{xs:List Int}(h:w.ownsRow base 2 1 (.slice (some ⟨g,0,none⟩) (0+n) c) (0+n) ([]++xs.map (Value.int .i64)))(hn:n=xs.length):Row base w g c xs:=by
 subst hn
 simpa [Row] using h
theorem Zla(ao:Option Addr)(cap:Nat)(ms:List Mk)(w:World)(hv:Zq w ao ms)(h60:ms.length<=60)(h4:∀i,(mat ms i).length<=4):
 Calls Tryz.prog 212 #[.slice ao ms.length cap] w fun e w'=>∃g c ds,e=.returned (.slice (some ⟨g,0,none⟩) ms.length c)/\ZL w.heap.size w' g c ds/\Zj ds=ms/\Below w.heap.size w w':=by
 obtain⟨i0,hi0,hx0,hx1,hx2⟩:=info_parts Tryz.info2
 obtain⟨j0,hj0,hy0,hy1,hy2⟩:=info_parts Tryz.info29
 have R0:=Za (ZL.start w w.heap.size (Nat.le_refl _))
 have L0:=Za ((Below.refl w.heap.size w).alloc (Nat.le_refl _) (.cells #[] 29))
 go_enter Tryz.func212,Tryz.ntmps212
 go_wp2_with fail
 go_loopw [3,4] (fun v i wr=>∃(k g c:Nat) (ds:List Dm),k<=ms.length/\i=.int .i64 k/\v=.slice (some ⟨g,0,none⟩) k c/\ds.length=k/\ZL w.heap.size wr g c ds/\Zj ds=ms.take k/\Below w.heap.size w wr) (fun _ i _=>ms.length-(intOf i).toNat)
 case atStart=>exact⟨0,w.heap.size,0,[],Nat.zero_le _,rfl,rfl,rfl,R0.out,rfl,L0.out⟩
 case round=>
  clear R0 L0
  obtain⟨k,g,c,ds,hk,rfl,rfl,hdl,hrow,hdm,L⟩:=hrel
  have HR:=Za hrow
  have HD:=Za hdm
  have HL:=Za L
  have HDL:=Za hdl
  have hz:=L.size
  have hgl:=hrow.lt
  by_cases hlt:k<ms.length
  · obtain⟨b,off,rfl,hb,hseg⟩:=ZbX hv (by omega)
    obtain⟨hc0,ae,ce,hc1,hve⟩:=(hseg.below hb (Nat.le_refl _) L).at hlt
    have hmk:(mid ms k,mat ms k)=ZH ms k:=rfl
    have h4k:=h4 k
    have hi0':(0:Int)<=(k:Int):=Int.natCast_nonneg _
    have hi1':(k:Int)<(ms.length:Int):=by omega
    have hbw:b<wr.heap.size:=by omega
    have HVE:=Za hve
    have HTK:Hid (Zj (ds++[(mid ms k,wr.heap.size,0,mat ms k)])=ms.take (k+1)):=by
     show _=_
     rw [Zj,List.map_append,<-Zj,HD.out,List.take_add_one]
     congr 1
     simp [mid,mat,List.getD,hlt]
    clear hrow hdm L hdl hseg hve
    go_wp2_with fail
    have HS0:Hid (∀W',Below wr.heap.size wr W'->W'.cell? ⟨b,off+k*2,none⟩=some (.int .i64 (mid ms k))/\W'.cell? ⟨b,off+k*2+1,none⟩=some (.slice ae (mat ms k).length ce)):=fun W' L'=>⟨(L'.cell (p:=⟨b,off+k*2,none⟩) hbw).trans hc0,(L'.cell (p:=⟨b,off+k*2+1,none⟩) hbw).trans hc1⟩
    have BL:=Za ((Below.refl wr.heap.size wr).drew)
    refine Zt (S:=fun W'=>W'.cell? ⟨b,off+k*2,none⟩=some (.int .i64 (mid ms k))/\W'.cell? ⟨b,off+k*2+1,none⟩=some (.slice ae (mat ms k).length ce)) (fuel:=6) [0,1,2,3,4,5,7,8,9,10,11] (by kernel_rfl) (by kernel_rfl) (by kernel_rfl) (by kernel_rfl) (HS0.out _ BL.out) (fun _=>?_)
    iterate 11 (refine⟨_,rfl,?_⟩;apply Exists.intro;refine⟨Or.inl ⟨by rfl,fun w' hw'=>?_⟩,?_⟩;(focus (obtain⟨e1,e2⟩:=hw';first | (go_simp;done) | (go_simp;with_reducible rfl)));simp only [Act.put,List.getElem_toArray,List.getElem_cons_succ,List.getElem_cons_zero,List.setIfInBounds_toArray,List.set_cons_zero,List.set_cons_succ])
    refine Zc 6 (by kernel_rfl) rfl (fun K hK=>?_)
    go_simp
    obtain⟨w5,hw5⟩:∃w5,(wr.alloc (.cells #[] 2)).drew=w5:=⟨_,rfl⟩
    have HL5:Hid (Below wr.heap.size wr w5):=by show Below _ _ _;rw [<-hw5];exact ((Below.refl wr.heap.size wr).alloc (Nat.le_refl _) _).drew
    have HR5:Hid (Row w.heap.size w5 wr.heap.size 0 []):=by show Row _ _ _ _ _;rw [<-hw5];exact Row.start wr w.heap.size hz
    have hs5:w5.heap.size=wr.heap.size+1:=by rw [<-hw5];simp
    rw [hw5]
    clear hw5
    refine hK.out _ _ (HS0.out _ HL5.out) (fun _=>?_)
    clear hK K
    refine Zc 12 (by kernel_rfl) rfl (fun K hK=>?_)
    refine Zi w5 rfl (.tmp 18) (.tmp 23) 27 rfl w.heap.size 2 i0 _ 1 8 Tryz.underlying27 hi0 hx0 hx1 hx2 rfl (by omega) wr.heap.size 0 0 [] rfl HR5.out ae (mat ms k).length ce ((mat ms k).map (Value.int .i64)) rfl (ZY (Zs.next HVE.out HL5.out)) (by unfold maxLen;omega) (by omega) (by omega) w5.heap.size rfl ?_
    intro g6 c6 w6 hown6 hgrow6 hat6 hlt6
    have HR6:Hid (Row w.heap.size w6 g6 c6 (mat ms k)):=Zbm hown6 rfl
    have hz6:=hgrow6.size
    have HL6:Hid (Below wr.heap.size wr w6):=HL5.out.grown hgrow6 (by omega) (by intro q hq;cases hq;omega)
    clear hown6 hgrow6
    refine hK.out _ _ (HS0.out _ HL6.out) (fun _=>?_)
    clear hK K
    refine Zo 3 [13] (by kernel_rfl) (by kernel_rfl) (by kernel_rfl) (HS0.out _ HL6.out) ?_
    iterate 1 (refine⟨_,rfl,?_⟩;apply Exists.intro;refine⟨Or.inl ⟨by rfl,fun w' hw'=>?_⟩,?_⟩;(focus (obtain⟨e1,e2⟩:=hw';first | (go_simp;done) | (go_simp;with_reducible rfl)));simp only [Act.put,List.getElem_toArray,List.getElem_cons_succ,List.getElem_cons_zero,List.setIfInBounds_toArray,List.set_cons_zero,List.set_cons_succ])
    refine Zc 14 (by kernel_rfl) rfl (fun K hK=>?_)
    go_simp
    obtain⟨w7,hw7⟩:∃w7,w6.alloc (.cells #[.int .i64 (mid ms k),.slice (some ⟨g6,0,none⟩) (mat ms k).length c6] 29)=w7:=⟨_,rfl⟩
    have HN7:Hid (w7.heap[w6.heap.size]? =some (.cells #[.int .i64 (mid ms k),.slice (some ⟨g6,0,none⟩) (mat ms k).length c6] 29 (0,0))):=by show _=_;rw [<-hw7];exact heap_alloc_new w6 _
    have L67:Below w6.heap.size w6 w7:=by rw [<-hw7];exact (Below.refl _ _).alloc (Nat.le_refl _) _
    have hs7:w7.heap.size=w6.heap.size+1:=by rw [<-hw7];simp
    have HL7:=Za (Zd HL6.out L67)
    have HR7:=Za (HR6.out.next L67 HR6.out.lt2.2)
    have hg6:=HR6.out.lt2
    have HD7:=Za (HR.out.kept (r:=none) ⟨HL7.out.os,HL7.out.tape,HL7.out.output,HL7.out.size,fun i hi _=>HL7.out.block i hi⟩ (by simp))
    try rw [Nat.zero_add]
    try rw [hw7]
    clear hw7 L67
    refine hK.out _ _ (HS0.out _ HL7.out) (fun _=>?_)
    clear hK K
    refine Zc 15 (by kernel_rfl) rfl (fun K hK=>?_)
    refine Zi w7 rfl (.tmp 12) (.tmp 26) 44 rfl w.heap.size 29 j0 _ 2 32 Tryz.underlying44 hj0 hy0 hy1 hy2 rfl (by omega) g k c (Zu ds) rfl (by have h:=HD7.out.1;rw [HDL.out] at h;exact h) (some ⟨w6.heap.size,0,none⟩) 1 1 [.int .i64 (mid ms k),.slice (some ⟨g6,0,none⟩) (mat ms k).length c6] rfl (Zc9 HN7.out) (by unfold maxLen;omega) (by omega) (by omega) w7.heap.size rfl ?_
    intro g8 c8 w8 hown8 hgrow8 hat8 hlt8
    have HD8:Hid (ZL w.heap.size w8 g8 c8 (ds++[(mid ms k,g6,c6,mat ms k)])):=ZL.snoc HD7.out HR7.out (by rcases hat6 with e | e <;> omega) (fun d hd=>by
     have h1:=(HR.out.2.1 d hd).1.lt2
     rcases hat6 with e | e <;> omega) (by rw [HDL.out];exact hown8) hgrow8 (by rcases hat8 with e | e;exact Or.inl e.symm;exact Or.inr e)
    have HL8:Hid (Below w.heap.size w w8):=(Zd HL.out HL7.out).grown hgrow8 (by omega) (by intro q hq;cases hq;omega)
    have HS8:Hid (w8.cell? ⟨b,off+k*2,none⟩=some (.int .i64 (mid ms k))/\w8.cell? ⟨b,off+k*2+1,none⟩=some (.slice ae (mat ms k).length ce)):=by
     have hbb:=hgrow8.block b (by omega) (by simp;omega)
     exact⟨(World.cell?_of_block hbb).trans (HS0.out _ HL7.out).1,(World.cell?_of_block hbb).trans (HS0.out _ HL7.out).2⟩
    clear hown8 hgrow8
    refine hK.out _ _ HS8.out (fun _=>?_)
    clear hK K
    refine ZB [16] rfl (by kernel_rfl) (by kernel_rfl) (by kernel_rfl) HS8.out ?_
    iterate 1 (refine⟨_,rfl,?_⟩;apply Exists.intro;refine⟨Or.inl ⟨by rfl,fun w' hw'=>?_⟩,?_⟩;(focus (obtain⟨e1,e2⟩:=hw';first | (go_simp;done) | (go_simp;with_reducible rfl)));simp only [Act.put,List.getElem_toArray,List.getElem_cons_succ,List.getElem_cons_zero,List.setIfInBounds_toArray,List.set_cons_zero,List.set_cons_succ])
    refine NoPanic.normal (NoPanic.normal ?_)
    have HTK2:Hid (Zj (ds++[(mid ms k,g6,c6,mat ms k)])=ms.take (k+1)):=by
     have h:=HTK.out
     simp only [Zj,List.map_append,List.map_cons,List.map_nil] at h ⊢
     exact h
    clear HS0 BL HL5 HR5 HL6 HR6 HL7 HR7 HD7 HN7 HS8
    go_wp2_with fail
    go_roundw
    case rel=>exact⟨k+1,g8,c8,ds++[(mid ms k,g6,c6,mat ms k)],by omega,by go_num,rfl,by have:=HDL.out;simp;omega,HD8.out,HTK2.out,HL8.out⟩
    case measure=>simp [intOf];omega
  · obtain rfl:k=ms.length:=by omega
    have e1:Zj ds=ms:=by rw [HD.out,List.take_length]
    go_wp2_with fail
    go_ret
    exact⟨g,c,ds,rfl,HR.out,e1,L⟩
end Go.Proofs.YtaaagmgglolibaaGreat
