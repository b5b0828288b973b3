import Derived.Test.YtaaagmgglolibaaGreatSCellsZz
import Derived.Test.YtaaagmgglolibaaGreatFeWalkZz
import Derived.Deep.CutRange
import Derived.Deep.CutBlock
import Derived.Deep.LoopGhost
import Derived.Test.YtaaagmgglolibaaGreatFgRowZz
import Derived.Test.YtaaagmgglolibaaGreatFg0Zz
import Derived.Test.YtaaagmgglolibaaGreatHM9Zz
import Derived.Test.YtaaagmgglolibaaGreatMArgsZz
import Derived.Test.YtaaagmgglolibaaGreatFeHelpZz
import Derived.Test.YtaaagmgglolibaaGreatMMarkZz
import Derived.Test.YtaaagmgglolibaaGreatTwArgsZz
import Derived.Test.YtaaagmgglolibaaGreatTwOkZz
import Derived.Test.YtaaagmgglolibaaGreatMRowZz
set_option maxRecDepth 100000
set_option maxHeartbeats 20000000
namespace Go.Proofs.YtaaagmgglolibaaGreat
open Go Go.RowKit
theorem Zfs{P:Program}{md:Region.Mode}{Q:Exit->Act->World->Prop}{ops:Array Oper}{S:World->Prop}{fuel:Nat}{listed:Array Bool}{a:Act}{w:World}{o o2 o3:Oper}(i j k:Nat)(hr:Region.ready md ops listed=[i,j,k])(ho:ops[i]? =some o)(ho2:ops[j]? =some o2)(ho3:ops[k]? =some o3)
 (h:∀K:Act->World->Prop,Shut (∀a w,S w->(S w->wpAnyH P md ops Q S fuel (listed.setIfInBounds i true) a w)->K a w)->if Region.wanted o (yielded ops a.tmps)=true then Oper.wp P o a w K Q else K (a.put o.dst undef) w)
 (h2:∀K:Act->World->Prop,Shut (∀a w,S w->(S w->wpAnyH P md ops Q S fuel (listed.setIfInBounds j true) a w)->K a w)->if Region.wanted o2 (yielded ops a.tmps)=true then Oper.wp P o2 a w K Q else K (a.put o2.dst undef) w)
 (h3:∀K:Act->World->Prop,Shut (∀a w,S w->(S w->wpAnyH P md ops Q S fuel (listed.setIfInBounds k true) a w)->K a w)->if Region.wanted o3 (yielded ops a.tmps)=true then Oper.wp P o3 a w K Q else K (a.put o3.dst undef) w):wpAnyH P md ops Q S (fuel+1) listed a w:=
 wpAnyH_ready hr (by simp) (AllReadyH.cons ho h (AllReadyH.cons ho2 h2 (AllReadyH.cons ho3 h3 AllReadyH.nil)))
def Zed(base:Nat)(w:World)(g gl:Nat)(ms:List Mk)(X:Nat->List Int)(n:Nat):Prop:=∃G cc V lo hi,Zag base w g ms.length ms G cc lo hi/\NM base w gl n V X hi/\g≠gl/\gl<lo
theorem Zjz(am al:Option Addr)(cm cl:Nat)(ms:List Mk)(ls:List (List Int))(w:World)(hm:Zq w am ms)(hl:Z8 w al ls)(hmb:Zn ms=true)(hsm:ZX ms)(hcs:ZaZ ls):
 Calls Tryz.prog 181 #[.agg #[.slice am ms.length cm,.slice al ls.length cl]] w fun e w'=>∃g gl,e=.returned (.agg #[.slice (some ⟨g,0,none⟩) ms.length ms.length,.slice (some ⟨gl,0,none⟩) ls.length ls.length])/\Zed w.heap.size w' g gl ms (cn ls) ls.length/\Below w.heap.size w w':=by
 obtain⟨W1,hW1⟩:∃W,w.alloc (.cells #[.slice am ms.length cm,.slice al ls.length cl] 47)=W:=⟨_,rfl⟩
 have hB1:Below w.heap.size w W1:=by rw [<-hW1];exact (Below.refl _ _).alloc (Nat.le_refl _) _
 have hI1:Zac W1 w.heap.size am cm ms al cl ls:=by rw [<-hW1];exact Zac.box hm hl
 obtain⟨W,hW⟩:∃W,W1.alloc (.cells #[.slice none 0 0,.slice none 0 0] 47)=W:=⟨_,rfl⟩
 have hB2:Below W1.heap.size W1 W:=by rw [<-hW];exact (Below.refl _ _).alloc (Nat.le_refl _) _
 have TR:Two W W1.heap.size (.slice none 0 0) (.slice none 0 0) 47:=by rw [<-hW];exact Two.new W1 _ _ _
 have s1:W1.heap.size=w.heap.size+1:=by rw [<-hW1];simp
 have s2:W.heap.size=w.heap.size+2:=by rw [<-hW];simp [s1]
 have hI:=hI1.below hB2
 have HB:=Za (Zd hB1 hB2)
 have HI:=Za hI
 have HTR:=Za TR
 have HMB:=Za hmb
 have hml:=ZA hmb
 have hll:=hcs.1
 have hmkM:∀w0:World,(Instr.makeSlice 44 (.int .i64 (ms.length:Int)) (.int .i64 (ms.length:Int))).run Tryz.prog w0=.ok (.slice (some ⟨w0.heap.size,0,none⟩) ms.length ms.length) (w0.alloc (.cells (madeCells #[.int .i64 0,.slice none 0 0] (ms.length*2)) 29)):=fun w0=>Zak (P:=Tryz.prog) 44 29 (.agg #[.int .i64 0,.slice none 0 0]) 2 32 Tryz.underlying44 Tryz.info29 .i64 .i64 ms.length (by omega) (by omega) w0
 have hmkL:∀w0:World,(Instr.makeSlice 45 (.int .i64 (ls.length:Int)) (.int .i64 (ls.length:Int))).run Tryz.prog w0=.ok (.slice (some ⟨w0.heap.size,0,none⟩) ls.length ls.length) (w0.alloc (.cells (madeCells #[.slice none 0 0] ls.length) 27)):=fun w0=>by have h:=Zak (P:=Tryz.prog) 45 27 (.slice none 0 0) 1 24 Tryz.underlying45 Tryz.info27 .i64 .i64 ls.length (by omega) (by omega) w0;rw [Nat.mul_one] at h;exact h
 have HS:Hid (∀W',Below W.heap.size W W'->W'.cell? ⟨w.heap.size,0,none⟩=some (.slice am ms.length cm)/\W'.cell? ⟨w.heap.size,1,none⟩=some (.slice al ls.length cl)):=fun W' L'=>⟨(HI.out.below L').c0,(HI.out.below L').c1⟩
 have HSZ:=Za (And.intro s1 s2)
 have BL:=Za ((Below.refl W.heap.size W).drew)
 have HWW:Hid ((w.alloc (.cells #[.slice am ms.length cm,.slice al ls.length cl] 47)).alloc (.cells #[.slice none 0 0,.slice none 0 0] 47)=W):=by show _=_;rw [hW1,hW]
 clear hm hl hB1 hI1 hB2 TR hI s1 s2 hW hW1
 go_enter Tryz.func181,Tryz.ntmps181
 go_upto_region 1 with fail
 rw [HWW.out]
 clear HWW
 go_cut [3] from 8 to 17 (fun v wx=>∃o g gl,v=.pointer (some ⟨o,0,none⟩)/\Two wx o (.slice (some ⟨g,0,none⟩) ms.length ms.length) (.slice (some ⟨gl,0,none⟩) ls.length ls.length) 47/\FB wx g (ms.length*2) ZaQ 29/\FB wx gl ls.length (fun _=>.slice none 0 0) 27/\W.heap.size<=o/\W.heap.size<=g/\W.heap.size<=gl/\o≠g/\o≠gl/\g≠gl/\Below W.heap.size W wx)
 case first=>
  refine Zt (S:=fun W'=>Below W.heap.size W W') (fuel:=5) [0,1,2,4,5,6] (by kernel_rfl) (by kernel_rfl) (by kernel_rfl) (by kernel_rfl) BL.out (fun _=>?_)
  iterate 6 (refine⟨_,rfl,?_⟩;apply Exists.intro;refine⟨Or.inl ⟨by rfl,fun w' hw'=>?_⟩,?_⟩;(focus (obtain⟨e1,e2⟩:=HS.out w' hw';first | (go_simp;done) | (go_simp;with_reducible rfl)));simp only [Act.put,List.getElem_toArray,List.getElem_cons_succ,List.getElem_cons_zero,List.setIfInBounds_toArray,List.set_cons_zero,List.set_cons_succ])
  obtain⟨wv0,hv0⟩:∃w0,W.drew=w0:=⟨_,rfl⟩
  have Bwv0:Below W.heap.size W wv0:=by rw [<-hv0];exact BL.out
  have sv0:W.heap.size<=wv0.heap.size:=Bwv0.size
  rw [hv0]
  clear hv0
  refine Zfs 3 7 9 (by kernel_rfl) rfl rfl rfl (fun K hK=>?_) (fun K hK=>?_) (fun K hK=>?_)
  · go_simp
    obtain⟨wv1,hX⟩:∃w0,wv0.alloc (.cells (madeCells #[.int .i64 0,.slice none 0 0] (ms.length*2)) 29)=w0:=⟨_,rfl⟩
    have LX:Below wv0.heap.size wv0 wv1:=by rw [<-hX];exact (Below.refl _ _).alloc (Nat.le_refl _) _
    have sX:wv0.heap.size<wv1.heap.size:=by rw [<-hX];simp
    have Fg:FB wv1 wv0.heap.size (ms.length*2) ZaQ 29:=by rw [<-hX];exact FB.madeM wv0 _ _
    have Bwv1:Below W.heap.size W wv1:=Zd Bwv0 LX
    obtain⟨g,hg⟩:∃q,wv0.heap.size=q:=⟨_,rfl⟩
    have hg1:wv0.heap.size<=g:=by omega
    have hg2:g<wv1.heap.size:=by omega
    rw [hX]
    rw [hg] at Fg ⊢
    refine hK.out _ _ Bwv1 (fun _=>?_)
    clear hK K hX LX hg sX
    refine ZD 7 9 (by kernel_rfl) rfl rfl (fun K hK=>?_) (fun K hK=>?_)
    · go_simp
      obtain⟨wv2,hX⟩:∃w0,wv1.alloc (.cells (madeCells #[.slice none 0 0] ls.length) 27)=w0:=⟨_,rfl⟩
      have LX:Below wv1.heap.size wv1 wv2:=by rw [<-hX];exact (Below.refl _ _).alloc (Nat.le_refl _) _
      have sX:wv1.heap.size<wv2.heap.size:=by rw [<-hX];simp
      have Fl:FB wv2 wv1.heap.size ls.length (fun _=>.slice none 0 0) 27:=by rw [<-hX];have:=FB.madeL wv1 ls.length 27;rw [Nat.mul_one] at this;exact this
      replace Fg:=Fg.next LX
      have Bwv2:Below W.heap.size W wv2:=Zd Bwv1 LX
      obtain⟨gl,hgl⟩:∃q,wv1.heap.size=q:=⟨_,rfl⟩
      have hgl1:wv1.heap.size<=gl:=by omega
      have hgl2:gl<wv2.heap.size:=by omega
      rw [hX]
      rw [hgl] at Fl ⊢
      refine hK.out _ _ Bwv2 (fun _=>?_)
      clear hK K hX LX hgl sX
      refine Zo 2 [8] (by kernel_rfl) (by kernel_rfl) (by kernel_rfl) Bwv2 ?_
      iterate 1
       refine⟨_,rfl,?_⟩
       apply Exists.intro
       refine⟨Or.inl ⟨by rfl,fun w' hw'=>?_⟩,?_⟩
       · first
         | (go_simp;done)
         | (go_simp;with_reducible rfl)
       simp only [Act.put,List.getElem_toArray,List.getElem_cons_succ,List.getElem_cons_zero,List.setIfInBounds_toArray,List.set_cons_zero,List.set_cons_succ]
      refine Zc 9 (by kernel_rfl) rfl (fun K hK=>?_)
      go_simp
      have oE:wv2.heap.size=wv2.heap.size:=rfl
      refine hK.out _ _ (Bwv2.alloc Bwv2.size _) (fun _=>?_)
      clear hK K
      refine Zc 10 (by kernel_rfl) rfl (fun K hK=>?_)
      go_simp
      obtain⟨wz,hwz⟩:∃wz,wv2.alloc (.cells #[.slice (some ⟨g,0,none⟩) ms.length ms.length,.slice (some ⟨gl,0,none⟩) ls.length ls.length] 47)=wz:=⟨_,rfl⟩
      have LZ:Below wv2.heap.size wv2 wz:=by rw [<-hwz];exact (Below.refl _ _).alloc (Nat.le_refl _) _
      have TZ:Two wz wv2.heap.size (.slice (some ⟨g,0,none⟩) ms.length ms.length) (.slice (some ⟨gl,0,none⟩) ls.length ls.length) 47:=by rw [<-hwz];exact Two.new wv2 _ _ _
      have hgl1:=Fg.lt
      have hgl2:=Fl.lt
      rw [hwz]
      refine hK.out _ _ (Zd Bwv2 LZ) (fun _=>?_)
      clear hK K hwz
      refine wpAnyH_done (by kernel_rfl) ?_ _
      refine NoPanic.normal ?_
      try simp only [Exit.then]
      go_wp2_with fail
      go_meet
      exact⟨_,g,gl,rfl,TZ,Fg.next LZ,Fl.next LZ,by have:=Bwv2.size;omega,by omega,by omega,by omega,by omega,by omega,Zd Bwv2 LZ⟩
    · go_simp
      obtain⟨wv4,hX⟩:∃w0,wv1.alloc (.cells #[.slice none 0 0,.slice none 0 0] 47)=w0:=⟨_,rfl⟩
      have LX:Below wv1.heap.size wv1 wv4:=by rw [<-hX];exact (Below.refl _ _).alloc (Nat.le_refl _) _
      have sX:wv1.heap.size<wv4.heap.size:=by rw [<-hX];simp
      have Fo:Two wv4 wv1.heap.size (.slice none 0 0) (.slice none 0 0) 47:=by rw [<-hX];exact Two.new wv1 _ _ _
      replace Fg:=Fg.next LX
      have Bwv4:Below W.heap.size W wv4:=Zd Bwv1 LX
      obtain⟨o,ho⟩:∃q,wv1.heap.size=q:=⟨_,rfl⟩
      have ho1:wv1.heap.size<=o:=by omega
      have ho2:o<wv4.heap.size:=by omega
      rw [hX]
      rw [ho] at Fo ⊢
      refine hK.out _ _ Bwv4 (fun _=>?_)
      clear hK K hX LX ho sX
      refine Zc 7 (by kernel_rfl) rfl (fun K hK=>?_)
      go_simp
      obtain⟨wv5,hX⟩:∃w0,wv4.alloc (.cells (madeCells #[.slice none 0 0] ls.length) 27)=w0:=⟨_,rfl⟩
      have LX:Below wv4.heap.size wv4 wv5:=by rw [<-hX];exact (Below.refl _ _).alloc (Nat.le_refl _) _
      have sX:wv4.heap.size<wv5.heap.size:=by rw [<-hX];simp
      have Fl:FB wv5 wv4.heap.size ls.length (fun _=>.slice none 0 0) 27:=by rw [<-hX];have:=FB.madeL wv4 ls.length 27;rw [Nat.mul_one] at this;exact this
      replace Fg:=Fg.next LX
      replace Fo:=Fo.below LX
      have Bwv5:Below W.heap.size W wv5:=Zd Bwv4 LX
      obtain⟨gl,hgl⟩:∃q,wv4.heap.size=q:=⟨_,rfl⟩
      have hgl1:wv4.heap.size<=gl:=by omega
      have hgl2:gl<wv5.heap.size:=by omega
      rw [hX]
      rw [hgl] at Fl ⊢
      refine hK.out _ _ Bwv5 (fun _=>?_)
      clear hK K hX LX hgl sX
      refine Zo 1 [8] (by kernel_rfl) (by kernel_rfl) (by kernel_rfl) Bwv5 ?_
      iterate 1
       refine⟨_,rfl,?_⟩
       apply Exists.intro
       refine⟨Or.inl ⟨by rfl,fun w' hw'=>?_⟩,?_⟩
       · first
         | (go_simp;done)
         | (go_simp;with_reducible rfl)
       simp only [Act.put,List.getElem_toArray,List.getElem_cons_succ,List.getElem_cons_zero,List.setIfInBounds_toArray,List.set_cons_zero,List.set_cons_succ]
      have x0:=Fo.c0
      have x1:=Fo.c1
      have xf0:=Fo.frozen 0
      have xf1:=Fo.frozen 1
      have hgl1:=Fg.lt
      have hgl2:=Fl.lt
      have hgl3:=Fo.lt
      refine Zc 10 (by kernel_rfl) rfl (fun K hK=>?_)
      go_simp
      obtain⟨wz,hwz⟩:∃wz,(wv5.setCell ⟨o,0,none⟩ (.slice (some ⟨g,0,none⟩) ms.length ms.length)).setCell ⟨o,1,none⟩ (.slice (some ⟨gl,0,none⟩) ls.length ls.length)=wz:=⟨_,rfl⟩
      have TZ:Two wz o (.slice (some ⟨g,0,none⟩) ms.length ms.length) (.slice (some ⟨gl,0,none⟩) ls.length ls.length) 47:=by rw [<-hwz];exact (Fo.set0 _).set1 _
      have Fg2:FB wz g (ms.length*2) ZaQ 29:=by rw [<-hwz];exact (Fg.far (by omega) _ _).far (by omega) _ _
      have Fl2:FB wz gl ls.length (fun _=>.slice none 0 0) 27:=by rw [<-hwz];exact (Fl.far (by omega) _ _).far (by omega) _ _
      have BZ:Below W.heap.size W wz:=by rw [<-hwz];exact (Bwv5.setCell (by show W.heap.size<=o;omega) _).setCell (by show W.heap.size<=o;omega) _
      rw [hwz]
      refine hK.out _ _ BZ (fun _=>?_)
      clear hK K hwz x0 x1 xf0 xf1
      refine wpAnyH_done (by kernel_rfl) ?_ _
      refine NoPanic.normal ?_
      try simp only [Exit.then]
      go_wp2_with fail
      go_meet
      exact⟨o,g,gl,rfl,TZ,Fg2,Fl2,by omega,by omega,by omega,by omega,by omega,by omega,BZ⟩
  · go_simp
    obtain⟨wv6,hX⟩:∃w0,wv0.alloc (.cells (madeCells #[.slice none 0 0] ls.length) 27)=w0:=⟨_,rfl⟩
    have LX:Below wv0.heap.size wv0 wv6:=by rw [<-hX];exact (Below.refl _ _).alloc (Nat.le_refl _) _
    have sX:wv0.heap.size<wv6.heap.size:=by rw [<-hX];simp
    have Fl:FB wv6 wv0.heap.size ls.length (fun _=>.slice none 0 0) 27:=by rw [<-hX];have:=FB.madeL wv0 ls.length 27;rw [Nat.mul_one] at this;exact this
    have Bwv6:Below W.heap.size W wv6:=Zd Bwv0 LX
    obtain⟨gl,hgl⟩:∃q,wv0.heap.size=q:=⟨_,rfl⟩
    have hgl1:wv0.heap.size<=gl:=by omega
    have hgl2:gl<wv6.heap.size:=by omega
    rw [hX]
    rw [hgl] at Fl ⊢
    refine hK.out _ _ Bwv6 (fun _=>?_)
    clear hK K hX LX hgl sX
    refine ZD 3 9 (by kernel_rfl) rfl rfl (fun K hK=>?_) (fun K hK=>?_)
    · go_simp
      obtain⟨wv7,hX⟩:∃w0,wv6.alloc (.cells (madeCells #[.int .i64 0,.slice none 0 0] (ms.length*2)) 29)=w0:=⟨_,rfl⟩
      have LX:Below wv6.heap.size wv6 wv7:=by rw [<-hX];exact (Below.refl _ _).alloc (Nat.le_refl _) _
      have sX:wv6.heap.size<wv7.heap.size:=by rw [<-hX];simp
      have Fg:FB wv7 wv6.heap.size (ms.length*2) ZaQ 29:=by rw [<-hX];exact FB.madeM wv6 _ _
      replace Fl:=Fl.next LX
      have Bwv7:Below W.heap.size W wv7:=Zd Bwv6 LX
      obtain⟨g,hg⟩:∃q,wv6.heap.size=q:=⟨_,rfl⟩
      have hg1:wv6.heap.size<=g:=by omega
      have hg2:g<wv7.heap.size:=by omega
      rw [hX]
      rw [hg] at Fg ⊢
      refine hK.out _ _ Bwv7 (fun _=>?_)
      clear hK K hX LX hg sX
      refine Zo 2 [8] (by kernel_rfl) (by kernel_rfl) (by kernel_rfl) Bwv7 ?_
      iterate 1
       refine⟨_,rfl,?_⟩
       apply Exists.intro
       refine⟨Or.inl ⟨by rfl,fun w' hw'=>?_⟩,?_⟩
       · first
         | (go_simp;done)
         | (go_simp;with_reducible rfl)
       simp only [Act.put,List.getElem_toArray,List.getElem_cons_succ,List.getElem_cons_zero,List.setIfInBounds_toArray,List.set_cons_zero,List.set_cons_succ]
      refine Zc 9 (by kernel_rfl) rfl (fun K hK=>?_)
      go_simp
      have oE:wv7.heap.size=wv7.heap.size:=rfl
      refine hK.out _ _ (Bwv7.alloc Bwv7.size _) (fun _=>?_)
      clear hK K
      refine Zc 10 (by kernel_rfl) rfl (fun K hK=>?_)
      go_simp
      obtain⟨wz,hwz⟩:∃wz,wv7.alloc (.cells #[.slice (some ⟨g,0,none⟩) ms.length ms.length,.slice (some ⟨gl,0,none⟩) ls.length ls.length] 47)=wz:=⟨_,rfl⟩
      have LZ:Below wv7.heap.size wv7 wz:=by rw [<-hwz];exact (Below.refl _ _).alloc (Nat.le_refl _) _
      have TZ:Two wz wv7.heap.size (.slice (some ⟨g,0,none⟩) ms.length ms.length) (.slice (some ⟨gl,0,none⟩) ls.length ls.length) 47:=by rw [<-hwz];exact Two.new wv7 _ _ _
      have hgl1:=Fg.lt
      have hgl2:=Fl.lt
      rw [hwz]
      refine hK.out _ _ (Zd Bwv7 LZ) (fun _=>?_)
      clear hK K hwz
      refine wpAnyH_done (by kernel_rfl) ?_ _
      refine NoPanic.normal ?_
      try simp only [Exit.then]
      go_wp2_with fail
      go_meet
      exact⟨_,g,gl,rfl,TZ,Fg.next LZ,Fl.next LZ,by have:=Bwv7.size;omega,by omega,by omega,by omega,by omega,by omega,Zd Bwv7 LZ⟩
    · go_simp
      obtain⟨wv9,hX⟩:∃w0,wv6.alloc (.cells #[.slice none 0 0,.slice none 0 0] 47)=w0:=⟨_,rfl⟩
      have LX:Below wv6.heap.size wv6 wv9:=by rw [<-hX];exact (Below.refl _ _).alloc (Nat.le_refl _) _
      have sX:wv6.heap.size<wv9.heap.size:=by rw [<-hX];simp
      have Fo:Two wv9 wv6.heap.size (.slice none 0 0) (.slice none 0 0) 47:=by rw [<-hX];exact Two.new wv6 _ _ _
      replace Fl:=Fl.next LX
      have Bwv9:Below W.heap.size W wv9:=Zd Bwv6 LX
      obtain⟨o,ho⟩:∃q,wv6.heap.size=q:=⟨_,rfl⟩
      have ho1:wv6.heap.size<=o:=by omega
      have ho2:o<wv9.heap.size:=by omega
      rw [hX]
      rw [ho] at Fo ⊢
      refine hK.out _ _ Bwv9 (fun _=>?_)
      clear hK K hX LX ho sX
      refine Zc 3 (by kernel_rfl) rfl (fun K hK=>?_)
      go_simp
      obtain⟨wv10,hX⟩:∃w0,wv9.alloc (.cells (madeCells #[.int .i64 0,.slice none 0 0] (ms.length*2)) 29)=w0:=⟨_,rfl⟩
      have LX:Below wv9.heap.size wv9 wv10:=by rw [<-hX];exact (Below.refl _ _).alloc (Nat.le_refl _) _
      have sX:wv9.heap.size<wv10.heap.size:=by rw [<-hX];simp
      have Fg:FB wv10 wv9.heap.size (ms.length*2) ZaQ 29:=by rw [<-hX];exact FB.madeM wv9 _ _
      replace Fl:=Fl.next LX
      replace Fo:=Fo.below LX
      have Bwv10:Below W.heap.size W wv10:=Zd Bwv9 LX
      obtain⟨g,hg⟩:∃q,wv9.heap.size=q:=⟨_,rfl⟩
      have hg1:wv9.heap.size<=g:=by omega
      have hg2:g<wv10.heap.size:=by omega
      rw [hX]
      rw [hg] at Fg ⊢
      refine hK.out _ _ Bwv10 (fun _=>?_)
      clear hK K hX LX hg sX
      refine Zo 1 [8] (by kernel_rfl) (by kernel_rfl) (by kernel_rfl) Bwv10 ?_
      iterate 1
       refine⟨_,rfl,?_⟩
       apply Exists.intro
       refine⟨Or.inl ⟨by rfl,fun w' hw'=>?_⟩,?_⟩
       · first
         | (go_simp;done)
         | (go_simp;with_reducible rfl)
       simp only [Act.put,List.getElem_toArray,List.getElem_cons_succ,List.getElem_cons_zero,List.setIfInBounds_toArray,List.set_cons_zero,List.set_cons_succ]
      have x0:=Fo.c0
      have x1:=Fo.c1
      have xf0:=Fo.frozen 0
      have xf1:=Fo.frozen 1
      have hgl1:=Fg.lt
      have hgl2:=Fl.lt
      have hgl3:=Fo.lt
      refine Zc 10 (by kernel_rfl) rfl (fun K hK=>?_)
      go_simp
      obtain⟨wz,hwz⟩:∃wz,(wv10.setCell ⟨o,0,none⟩ (.slice (some ⟨g,0,none⟩) ms.length ms.length)).setCell ⟨o,1,none⟩ (.slice (some ⟨gl,0,none⟩) ls.length ls.length)=wz:=⟨_,rfl⟩
      have TZ:Two wz o (.slice (some ⟨g,0,none⟩) ms.length ms.length) (.slice (some ⟨gl,0,none⟩) ls.length ls.length) 47:=by rw [<-hwz];exact (Fo.set0 _).set1 _
      have Fg2:FB wz g (ms.length*2) ZaQ 29:=by rw [<-hwz];exact (Fg.far (by omega) _ _).far (by omega) _ _
      have Fl2:FB wz gl ls.length (fun _=>.slice none 0 0) 27:=by rw [<-hwz];exact (Fl.far (by omega) _ _).far (by omega) _ _
      have BZ:Below W.heap.size W wz:=by rw [<-hwz];exact (Bwv10.setCell (by show W.heap.size<=o;omega) _).setCell (by show W.heap.size<=o;omega) _
      rw [hwz]
      refine hK.out _ _ BZ (fun _=>?_)
      clear hK K hwz x0 x1 xf0 xf1
      refine wpAnyH_done (by kernel_rfl) ?_ _
      refine NoPanic.normal ?_
      try simp only [Exit.then]
      go_wp2_with fail
      go_meet
      exact⟨o,g,gl,rfl,TZ,Fg2,Fl2,by omega,by omega,by omega,by omega,by omega,by omega,BZ⟩
  · go_simp
    obtain⟨wv11,hX⟩:∃w0,wv0.alloc (.cells #[.slice none 0 0,.slice none 0 0] 47)=w0:=⟨_,rfl⟩
    have LX:Below wv0.heap.size wv0 wv11:=by rw [<-hX];exact (Below.refl _ _).alloc (Nat.le_refl _) _
    have sX:wv0.heap.size<wv11.heap.size:=by rw [<-hX];simp
    have Fo:Two wv11 wv0.heap.size (.slice none 0 0) (.slice none 0 0) 47:=by rw [<-hX];exact Two.new wv0 _ _ _
    have Bwv11:Below W.heap.size W wv11:=Zd Bwv0 LX
    obtain⟨o,ho⟩:∃q,wv0.heap.size=q:=⟨_,rfl⟩
    have ho1:wv0.heap.size<=o:=by omega
    have ho2:o<wv11.heap.size:=by omega
    rw [hX]
    rw [ho] at Fo ⊢
    refine hK.out _ _ Bwv11 (fun _=>?_)
    clear hK K hX LX ho sX
    refine ZD 3 7 (by kernel_rfl) rfl rfl (fun K hK=>?_) (fun K hK=>?_)
    · go_simp
      obtain⟨wv12,hX⟩:∃w0,wv11.alloc (.cells (madeCells #[.int .i64 0,.slice none 0 0] (ms.length*2)) 29)=w0:=⟨_,rfl⟩
      have LX:Below wv11.heap.size wv11 wv12:=by rw [<-hX];exact (Below.refl _ _).alloc (Nat.le_refl _) _
      have sX:wv11.heap.size<wv12.heap.size:=by rw [<-hX];simp
      have Fg:FB wv12 wv11.heap.size (ms.length*2) ZaQ 29:=by rw [<-hX];exact FB.madeM wv11 _ _
      replace Fo:=Fo.below LX
      have Bwv12:Below W.heap.size W wv12:=Zd Bwv11 LX
      obtain⟨g,hg⟩:∃q,wv11.heap.size=q:=⟨_,rfl⟩
      have hg1:wv11.heap.size<=g:=by omega
      have hg2:g<wv12.heap.size:=by omega
      rw [hX]
      rw [hg] at Fg ⊢
      refine hK.out _ _ Bwv12 (fun _=>?_)
      clear hK K hX LX hg sX
      refine Zc 7 (by kernel_rfl) rfl (fun K hK=>?_)
      go_simp
      obtain⟨wv13,hX⟩:∃w0,wv12.alloc (.cells (madeCells #[.slice none 0 0] ls.length) 27)=w0:=⟨_,rfl⟩
      have LX:Below wv12.heap.size wv12 wv13:=by rw [<-hX];exact (Below.refl _ _).alloc (Nat.le_refl _) _
      have sX:wv12.heap.size<wv13.heap.size:=by rw [<-hX];simp
      have Fl:FB wv13 wv12.heap.size ls.length (fun _=>.slice none 0 0) 27:=by rw [<-hX];have:=FB.madeL wv12 ls.length 27;rw [Nat.mul_one] at this;exact this
      replace Fo:=Fo.below LX
      replace Fg:=Fg.next LX
      have Bwv13:Below W.heap.size W wv13:=Zd Bwv12 LX
      obtain⟨gl,hgl⟩:∃q,wv12.heap.size=q:=⟨_,rfl⟩
      have hgl1:wv12.heap.size<=gl:=by omega
      have hgl2:gl<wv13.heap.size:=by omega
      rw [hX]
      rw [hgl] at Fl ⊢
      refine hK.out _ _ Bwv13 (fun _=>?_)
      clear hK K hX LX hgl sX
      refine Zo 1 [8] (by kernel_rfl) (by kernel_rfl) (by kernel_rfl) Bwv13 ?_
      iterate 1
       refine⟨_,rfl,?_⟩
       apply Exists.intro
       refine⟨Or.inl ⟨by rfl,fun w' hw'=>?_⟩,?_⟩
       · first
         | (go_simp;done)
         | (go_simp;with_reducible rfl)
       simp only [Act.put,List.getElem_toArray,List.getElem_cons_succ,List.getElem_cons_zero,List.setIfInBounds_toArray,List.set_cons_zero,List.set_cons_succ]
      have x0:=Fo.c0
      have x1:=Fo.c1
      have xf0:=Fo.frozen 0
      have xf1:=Fo.frozen 1
      have hgl1:=Fg.lt
      have hgl2:=Fl.lt
      have hgl3:=Fo.lt
      refine Zc 10 (by kernel_rfl) rfl (fun K hK=>?_)
      go_simp
      obtain⟨wz,hwz⟩:∃wz,(wv13.setCell ⟨o,0,none⟩ (.slice (some ⟨g,0,none⟩) ms.length ms.length)).setCell ⟨o,1,none⟩ (.slice (some ⟨gl,0,none⟩) ls.length ls.length)=wz:=⟨_,rfl⟩
      have TZ:Two wz o (.slice (some ⟨g,0,none⟩) ms.length ms.length) (.slice (some ⟨gl,0,none⟩) ls.length ls.length) 47:=by rw [<-hwz];exact (Fo.set0 _).set1 _
      have Fg2:FB wz g (ms.length*2) ZaQ 29:=by rw [<-hwz];exact (Fg.far (by omega) _ _).far (by omega) _ _
      have Fl2:FB wz gl ls.length (fun _=>.slice none 0 0) 27:=by rw [<-hwz];exact (Fl.far (by omega) _ _).far (by omega) _ _
      have BZ:Below W.heap.size W wz:=by rw [<-hwz];exact (Bwv13.setCell (by show W.heap.size<=o;omega) _).setCell (by show W.heap.size<=o;omega) _
      rw [hwz]
      refine hK.out _ _ BZ (fun _=>?_)
      clear hK K hwz x0 x1 xf0 xf1
      refine wpAnyH_done (by kernel_rfl) ?_ _
      refine NoPanic.normal ?_
      try simp only [Exit.then]
      go_wp2_with fail
      go_meet
      exact⟨o,g,gl,rfl,TZ,Fg2,Fl2,by omega,by omega,by omega,by omega,by omega,by omega,BZ⟩
    · go_simp
      obtain⟨wv14,hX⟩:∃w0,wv11.alloc (.cells (madeCells #[.slice none 0 0] ls.length) 27)=w0:=⟨_,rfl⟩
      have LX:Below wv11.heap.size wv11 wv14:=by rw [<-hX];exact (Below.refl _ _).alloc (Nat.le_refl _) _
      have sX:wv11.heap.size<wv14.heap.size:=by rw [<-hX];simp
      have Fl:FB wv14 wv11.heap.size ls.length (fun _=>.slice none 0 0) 27:=by rw [<-hX];have:=FB.madeL wv11 ls.length 27;rw [Nat.mul_one] at this;exact this
      replace Fo:=Fo.below LX
      have Bwv14:Below W.heap.size W wv14:=Zd Bwv11 LX
      obtain⟨gl,hgl⟩:∃q,wv11.heap.size=q:=⟨_,rfl⟩
      have hgl1:wv11.heap.size<=gl:=by omega
      have hgl2:gl<wv14.heap.size:=by omega
      rw [hX]
      rw [hgl] at Fl ⊢
      refine hK.out _ _ Bwv14 (fun _=>?_)
      clear hK K hX LX hgl sX
      refine Zc 3 (by kernel_rfl) rfl (fun K hK=>?_)
      go_simp
      obtain⟨wv15,hX⟩:∃w0,wv14.alloc (.cells (madeCells #[.int .i64 0,.slice none 0 0] (ms.length*2)) 29)=w0:=⟨_,rfl⟩
      have LX:Below wv14.heap.size wv14 wv15:=by rw [<-hX];exact (Below.refl _ _).alloc (Nat.le_refl _) _
      have sX:wv14.heap.size<wv15.heap.size:=by rw [<-hX];simp
      have Fg:FB wv15 wv14.heap.size (ms.length*2) ZaQ 29:=by rw [<-hX];exact FB.madeM wv14 _ _
      replace Fo:=Fo.below LX
      replace Fl:=Fl.next LX
      have Bwv15:Below W.heap.size W wv15:=Zd Bwv14 LX
      obtain⟨g,hg⟩:∃q,wv14.heap.size=q:=⟨_,rfl⟩
      have hg1:wv14.heap.size<=g:=by omega
      have hg2:g<wv15.heap.size:=by omega
      rw [hX]
      rw [hg] at Fg ⊢
      refine hK.out _ _ Bwv15 (fun _=>?_)
      clear hK K hX LX hg sX
      refine Zo 1 [8] (by kernel_rfl) (by kernel_rfl) (by kernel_rfl) Bwv15 ?_
      iterate 1
       refine⟨_,rfl,?_⟩
       apply Exists.intro
       refine⟨Or.inl ⟨by rfl,fun w' hw'=>?_⟩,?_⟩
       · first
         | (go_simp;done)
         | (go_simp;with_reducible rfl)
       simp only [Act.put,List.getElem_toArray,List.getElem_cons_succ,List.getElem_cons_zero,List.setIfInBounds_toArray,List.set_cons_zero,List.set_cons_succ]
      have x0:=Fo.c0
      have x1:=Fo.c1
      have xf0:=Fo.frozen 0
      have xf1:=Fo.frozen 1
      have hgl1:=Fg.lt
      have hgl2:=Fl.lt
      have hgl3:=Fo.lt
      refine Zc 10 (by kernel_rfl) rfl (fun K hK=>?_)
      go_simp
      obtain⟨wz,hwz⟩:∃wz,(wv15.setCell ⟨o,0,none⟩ (.slice (some ⟨g,0,none⟩) ms.length ms.length)).setCell ⟨o,1,none⟩ (.slice (some ⟨gl,0,none⟩) ls.length ls.length)=wz:=⟨_,rfl⟩
      have TZ:Two wz o (.slice (some ⟨g,0,none⟩) ms.length ms.length) (.slice (some ⟨gl,0,none⟩) ls.length ls.length) 47:=by rw [<-hwz];exact (Fo.set0 _).set1 _
      have Fg2:FB wz g (ms.length*2) ZaQ 29:=by rw [<-hwz];exact (Fg.far (by omega) _ _).far (by omega) _ _
      have Fl2:FB wz gl ls.length (fun _=>.slice none 0 0) 27:=by rw [<-hwz];exact (Fl.far (by omega) _ _).far (by omega) _ _
      have BZ:Below W.heap.size W wz:=by rw [<-hwz];exact (Bwv15.setCell (by show W.heap.size<=o;omega) _).setCell (by show W.heap.size<=o;omega) _
      rw [hwz]
      refine hK.out _ _ BZ (fun _=>?_)
      clear hK K hwz x0 x1 xf0 xf1
      refine wpAnyH_done (by kernel_rfl) ?_ _
      refine NoPanic.normal ?_
      try simp only [Exit.then]
      go_wp2_with fail
      go_meet
      exact⟨o,g,gl,rfl,TZ,Fg2,Fl2,by omega,by omega,by omega,by omega,by omega,by omega,BZ⟩
 case rest=>
  obtain⟨o,g,gl,rfl,hTo,hFg,hFl,ho,hg,hgl,hog,hogl,hggl,LW⟩:=hcut
  generalize hwc:wc=w1 at *
  clear hwc wc hmkM hmkL BL HS
  have HLW:=Za LW
  have hI1:=HI.out.below LW
  have k0:=hI1.c0
  have HLO:=Za (Zag.start (base:=w.heap.size) (ms:=ms) hFg (by have:=HSZ.out;omega))
  have HFL:=Za hFl
  have HTO:=Za hTo
  have hgll:=hFl.lt
  have hol:=hTo.lt
  have hWs:=HSZ.out.2
  have hgw:w.heap.size+2<=g:=by omega
  have how:w.heap.size+2<=o:=by omega
  have hglw:w.heap.size+2<=gl:=by omega
  have HW1:=Za LW.size
  clear hI1 hTo hFg hFl LW hWs
  go_wp2_with fail
  clear k0
  go_loopg [20] ms.length (fun gk iv wr=>∃(k:Nat) (G cc:Nat->Nat) (hi:Nat),k<=ms.length/\ms.length-k<=gk/\iv=.int .i64 k/\Zag w.heap.size wr g k ms G cc w1.heap.size hi/\w1.heap.size<=wr.heap.size/\FB wr gl ls.length (fun _=>.slice none 0 0) 27/\Two wr o (.slice (some ⟨g,0,none⟩) ms.length ms.length) (.slice (some ⟨gl,0,none⟩) ls.length ls.length) 47/\Below W.heap.size W wr)
  case atStart=>exact⟨0,_,_,_,Nat.zero_le _,Nat.sub_le _ _,rfl,HLO.out,Nat.le_refl _,HFL.out,HTO.out,HLW.out⟩
  case round=>
   obtain⟨k,G,cc,hi,hk,hgk,rfl,hp,hsz,hfl,hto,L⟩:=hrel
   have HP:=Za hp
   have HL:=Za L
   have HF:=Za hfl
   have HT:=Za hto
   have hIr:=HI.out.below L
   clear hp L hfl hto
   by_cases hlt:k<ms.length
   · obtain⟨mb,mo,rfl,hmb2,hms⟩:=Zbi.seg hIr.mv (by omega)
     obtain⟨c0,pa,pc,c1,hpv⟩:=hms.at (i:=k) hlt
     have hi0:(0:Int)<=(k:Int):=Int.natCast_nonneg _
     have hi1:(k:Int)<(ms.length:Int):=by omega
     have hok:=(ZG _ _).1 (ZM HMB.out hlt)
     obtain⟨V1,hV⟩:∃V1,wr.alloc (.cells #[.int .i64 (mid ms k),.slice pa (mat ms k).length pc] 29)=V1:=⟨_,rfl⟩
     have LV:Below wr.heap.size wr V1:=by rw [<-hV];exact (Below.refl _ _).alloc (Nat.le_refl _) _
     have hYl:wr.heap.size<V1.heap.size:=by rw [<-hV];simp
     have y0:V1.cell? ⟨wr.heap.size,0,none⟩=some (.int .i64 (mid ms k)):=by rw [<-hV];simp
     have y1:V1.cell? ⟨wr.heap.size,1,none⟩=some (.slice pa (mat ms k).length pc):=by rw [<-hV];simp
     have LVd:Below wr.heap.size wr V1.drew:=LV.drew
     have hOV:=(HT.out.below LVd).c0
     have HPD:=Za (HP.out.next LVd)
     have HTD:=Za (HT.out.below LVd)
     have HFD:=Za (HF.out.next LVd)
     have HLD:=Za (Zd HL.out LVd)
     have HC:=Za (ZiJ (mid ms k,pa,pc,mat ms k) V1.drew (hpv.next LVd) (by have:=((ZG _ _).1 (ZM HMB.out hlt)).2.2.1;exact (Zat this).1) (hsm.2 k))
     have hol1:=HTD.out.lt
     have hgl1:=HPD.out.blk.lt
     have hszd:w1.heap.size<=V1.drew.heap.size:=Nat.le_trans hsz LVd.size
     have hwb:w.heap.size<=V1.drew.heap.size:=by have:=HLD.out.size;have:=HSZ.out;omega
     clear hms hpv hIr LV LVd hok
     have HSS:Hid (∀W',Below V1.drew.heap.size V1.drew W'->W'.cell? ⟨o,0,none⟩=some (.slice (some ⟨g,0,none⟩) ms.length ms.length)/\W'.cell? ⟨wr.heap.size,0,none⟩=some (.int .i64 (mid ms k))/\W'.cell? ⟨wr.heap.size,1,none⟩=some (.slice pa (mat ms k).length pc)):=fun W' L'=>⟨(L'.cell (p:=⟨o,0,none⟩) hol1).trans hOV,(L'.cell (p:=⟨wr.heap.size,0,none⟩) hYl).trans y0,(L'.cell (p:=⟨wr.heap.size,1,none⟩) hYl).trans y1⟩
     obtain⟨id,hid⟩:∃id,mid ms k=id:=⟨_,rfl⟩
     obtain⟨xl,hxl⟩:∃xl,(mat ms k).length=xl:=⟨_,rfl⟩
     have HID:=Za (And.intro hid hxl)
     simp only at HC
     rw [hid,hxl] at HC HSS
     rw [hxl] at y1
     rw [hid] at y0 c0
     rw [hxl] at c1
     rw [hid,hxl] at hV
     clear hid hxl hOV
     go_wp2_with fail
     clear hV c0 c1 y0 y1
     refine ZR (S:=fun w'=>w'.cell? ⟨o,0,none⟩=some (.slice (some ⟨g,0,none⟩) ms.length ms.length)/\w'.cell? ⟨wr.heap.size,0,none⟩=some (.int .i64 id)/\w'.cell? ⟨wr.heap.size,1,none⟩=some (.slice pa xl pc)) (fuel:=2)
      [0,1,2,3] _ rfl (by kernel_rfl) (by kernel_rfl) (by kernel_rfl) (by kernel_rfl) (by kernel_rfl) (by kernel_rfl) (by kernel_rfl) (HSS.out _ (Below.refl _ _)) (fun hS=>?_)
     iterate 4
      refine⟨_,rfl,?_⟩
      apply Exists.intro
      refine⟨Or.inl ⟨by rfl,fun w' hw'=>?_⟩,?_⟩
      · first
        | (go_simp;done)
        | (go_simp;with_reducible rfl)
      simp only [Act.put,List.setIfInBounds_toArray]
     refine Zc 4 (by kernel_rfl) rfl (fun K hK=>?_)
     go_simp
     refine HC.out.mono ?_
     rintro e w3 ⟨h3,c3,rfl,hr3,L3⟩
     refine hK.out _ _ (HSS.out _ L3) (fun _=>?_)
     clear hK K
     refine Zc 5 (by kernel_rfl) rfl (fun K hK=>?_)
     go_simp
     refine hK.out _ _ (HSS.out _ L3) (fun _=>?_)
     clear hK K hS
     have HST:=Za (HPD.out.step L3 hr3 hwb hszd)
     have hN:=HPD.out.next L3
     have f0:=hN.blk.frozen (k*2)
     have f1:=hN.blk.frozen (k*2+1)
     have e0:=hN.blk.cell (i:=k*2) (by omega)
     have e1:=hN.blk.cell (i:=k*2+1) (by omega)
     have hgN:=hN.blk.lt
     have HE:Hid (FB ((w3.setCell ⟨g,k*2,none⟩ (.int .i64 id)).setCell ⟨g,k*2+1,none⟩ (.slice (some ⟨h3,0,none⟩) xl c3)) gl ls.length (fun _=>.slice none 0 0) 27/\Two ((w3.setCell ⟨g,k*2,none⟩ (.int .i64 id)).setCell ⟨g,k*2+1,none⟩ (.slice (some ⟨h3,0,none⟩) xl c3)) o (.slice (some ⟨g,0,none⟩) ms.length ms.length) (.slice (some ⟨gl,0,none⟩) ls.length ls.length) 47/\Below W.heap.size W ((w3.setCell ⟨g,k*2,none⟩ (.int .i64 id)).setCell ⟨g,k*2+1,none⟩ (.slice (some ⟨h3,0,none⟩) xl c3))/\w1.heap.size<=((w3.setCell ⟨g,k*2,none⟩ (.int .i64 id)).setCell ⟨g,k*2+1,none⟩ (.slice (some ⟨h3,0,none⟩) xl c3)).heap.size):=
      ⟨((HFD.out.next L3).far (by omega) _ _).far (by omega) _ _,((HTD.out.below L3).far (fun e=>hog e.symm) _).far (fun e=>hog e.symm) _,((Zd HLD.out L3).setCell (by show W.heap.size<=g;exact hg) _).setCell (by show W.heap.size<=g;exact hg) _,by rw [Zb,Zb];exact Nat.le_trans hszd L3.size⟩
     rw [HID.out.1,HID.out.2] at HST
     clear hr3 L3 hN HPD HFD HTD HLD HC HSS
     refine wpAnyH_done (by kernel_rfl) ?_ _
     simp only [Exit.then]
     go_wp2_with fail
     refine NoPanic.normal ?_
     go_wp2_with fail
     go_roundg (ms.length-(k+1))
     case rel=>exact⟨k+1,_,_,_,by omega,Nat.le_refl _,by go_num,HST.out,HE.out.2.2.2,HE.out.1,HE.out.2.1,HE.out.2.2.1⟩
     case measure=>omega
   · obtain rfl:k=ms.length:=by omega
     have hki:¬((ms.length:Int)<(ms.length:Int)):=by omega
     have k1:=hIr.c1
     have HOP:=Za (HP.out.raise HP.out.top (Nat.le_refl _))
     have HNM:=Za (NM.start (base:=w.heap.size) HF.out (by omega) (lo:=wr.heap.size) (by have:=HF.out.lt;omega) (Nat.le_refl _))
     have hglr:=HF.out.lt
     have hgr:=HP.out.blk.lt
     have HSR:=Za (Nat.le_refl wr.heap.size)
     clear hIr HP HF
     go_wp2_with fail
     clear k1
     obtain⟨H,hH⟩:∃H,wr.heap.size=H:=⟨_,rfl⟩
     rw [hH] at HOP HNM HSR hglr hgr
     have HHW:Hid (w1.heap.size<=H):=by show _<=_;omega
     clear hH
     go_loopw [35] (fun iv wq=>∃(j:Nat) (V:Nat->Value),j<=ls.length/\iv=.int .i64 j/\Zag w.heap.size wq g ms.length ms G cc w1.heap.size H/\NM w.heap.size wq gl ls.length V (fun i=>if i<j then cn ls i else []) H/\(∀i,j<=i->V i=.slice none 0 0)/\Two wq o (.slice (some ⟨g,0,none⟩) ms.length ms.length) (.slice (some ⟨gl,0,none⟩) ls.length ls.length) 47/\Below W.heap.size W wq) (fun iv _=>ls.length-(intOf iv).toNat)
     case atStart=>exact⟨0,_,Nat.zero_le _,rfl,HOP.out,HNM.out.congr (fun i _=>by rw [if_neg (by omega)]),fun _ _=>rfl,HT.out,HL.out⟩
     case round=>
      obtain⟨j,V,hj,rfl,hop,hnm,hVn,hto,L⟩:=hrel
      generalize hwq:wr=wq at *
      clear hwq wr
      have HOQ:=Za hop
      have HNQ:=Za hnm
      have HVQ:=Za hVn
      have HTQ:=Za hto
      have HLQ:=Za L
      have hIq:=HI.out.below L
      clear hop hnm hVn hto L
      by_cases hjl:j<ls.length
      · obtain⟨lb,lo2,rfl,hlb,hcsg⟩:=hIq.cv.seg (by omega)
        obtain⟨a,c,lk,hlv⟩:=hcsg j hjl
        have hj0:(0:Int)<=(j:Int):=Int.natCast_nonneg _
        have hj1:(j:Int)<(ls.length:Int):=by omega
        have LD:Below wq.heap.size wq wq.drew:=(Below.refl _ _).drew
        have HC:=Za (Zm7 a c (cn ls j) wq.drew (hlv.next LD) (hcs.2 j))
        have hoc:=HTQ.out.c1
        have hol2:=HTQ.out.lt
        have HSS:Hid (∀W',Below wq.drew.heap.size wq.drew W'->W'.cell? ⟨o,1,none⟩=some (.slice (some ⟨gl,0,none⟩) ls.length ls.length)):=fun W' L'=>(L'.cell (p:=⟨o,1,none⟩) hol2).trans hoc
        clear hcsg hlv hIq hoc
        go_wp2_with fail
        clear lk
        refine ZR (S:=fun w'=>w'.cell? ⟨o,1,none⟩=some (.slice (some ⟨gl,0,none⟩) ls.length ls.length)) (fuel:=2)
         [0,1,2,3] _ rfl (by kernel_rfl) (by kernel_rfl) (by kernel_rfl) (by kernel_rfl) (by kernel_rfl) (by kernel_rfl) (by kernel_rfl) (HSS.out _ (Below.refl _ _)) (fun hS=>?_)
        iterate 4
         refine⟨_,rfl,?_⟩
         apply Exists.intro
         refine⟨Or.inl ⟨by rfl,fun w' hw'=>?_⟩,?_⟩
         · first
           | (go_simp;done)
           | (go_simp;with_reducible rfl)
         simp only [Act.put,List.setIfInBounds_toArray]
        refine Zc 4 (by kernel_rfl) rfl (fun K hK=>?_)
        go_simp
        refine HC.out.mono ?_
        rintro e w3 ⟨v3,rfl,ho3,L3⟩
        refine hK.out _ _ (HSS.out _ L3) (fun _=>?_)
        clear hK K
        refine Zc 5 (by kernel_rfl) rfl (fun K hK=>?_)
        go_simp
        refine hK.out _ _ (HSS.out _ L3) (fun _=>?_)
        clear hK K hS
        obtain⟨a3,c3,rfl,-⟩:=Zcb ho3
        have L3':Below wq.heap.size wq w3:=Zd LD L3
        have hsq:wq.drew.heap.size=wq.heap.size:=rfl
        rw [hsq] at ho3
        have HPT:=Za (HNQ.out.put hjl (w':=w3) (ZiT ho3 HNQ.out.top) ⟨L3'.os,L3'.tape,L3'.output,L3'.size,fun k hk _=>L3'.block k hk⟩ (by
         rcases eq:(Value.slice a3 (cn ls j).length c3).ownBlock with _ | q
         · exact Or.inl rfl
         · exact Or.inr (Or.inr ⟨q,rfl,(Zaq ho3 eq).1⟩)))
        have f0:=(HNQ.out.next L3').blk.frozen j
        have e0:=(HNQ.out.next L3').blk.cell (i:=j) hjl
        rw [HVQ.out j (Nat.le_refl _)] at e0
        have HE:Hid (Zag w.heap.size (w3.setCell ⟨gl,j,none⟩ (.slice a3 (cn ls j).length c3)) g ms.length ms G cc w1.heap.size H/\Two (w3.setCell ⟨gl,j,none⟩ (.slice a3 (cn ls j).length c3)) o (.slice (some ⟨g,0,none⟩) ms.length ms.length) (.slice (some ⟨gl,0,none⟩) ls.length ls.length) 47/\Below W.heap.size W (w3.setCell ⟨gl,j,none⟩ (.slice a3 (cn ls j).length c3))):=
         ⟨(HOQ.out.next L3').far (by omega) (Or.inl hgll) _ _,(HTQ.out.below L3').far (fun e=>hogl e.symm) _,(Zd HLQ.out L3').setCell (by show W.heap.size<=gl;exact hgl) _⟩
        clear ho3 L3 L3' LD HOQ HNQ HTQ HLQ HC HSS hsq
        refine wpAnyH_done (by kernel_rfl) ?_ _
        simp only [Exit.then]
        go_wp2_with fail
        refine NoPanic.normal ?_
        go_wp2_with fail
        go_roundw
        case rel=>exact⟨j+1,_,by omega,by go_num,HE.out.1,HPT.out.congr (fun i _=>by
         simp only [Zen]
         by_cases e:i=j
         · rw [if_pos e,if_pos (by omega),e]
         · rw [if_neg e]
           by_cases e2:i<j
           · rw [if_pos e2,if_pos (by omega)]
           · rw [if_neg e2,if_neg (by omega)]),fun i hi'=>by
         unfold ZaX
         rw [if_neg (by omega)]
         exact HVQ.out i (by omega),HE.out.2.1,HE.out.2.2⟩
        case measure=>simp [intOf];omega
      · obtain rfl:j=ls.length:=by omega
        have hji:¬((ls.length:Int)<(ls.length:Int)):=by omega
        have hz:=HSZ.out
        have tR:=HTR.out.below HLQ.out
        rw [hz.1] at tR
        have r0:=tR.c0
        have r1:=tR.c1
        have rf0:=tR.frozen 0
        have rf1:=tR.frozen 1
        have o0:=HTQ.out.c0
        have o1:=HTQ.out.c1
        have t3:=(tR.set0 (.slice (some ⟨g,0,none⟩) ms.length ms.length)).set1 (.slice (some ⟨gl,0,none⟩) ls.length ls.length)
        have q0:=t3.c0
        have q1:=t3.c1
        have HNF:=Za (HNQ.out.congr (Y:=cn ls) (fun i hi'=>by rw [if_pos hi']))
        have hHw:=HHW.out
        have HE:Hid (Zag w.heap.size ((wq.setCell ⟨w.heap.size+1,0,none⟩ (.slice (some ⟨g,0,none⟩) ms.length ms.length)).setCell ⟨w.heap.size+1,1,none⟩ (.slice (some ⟨gl,0,none⟩) ls.length ls.length)) g ms.length ms G cc w1.heap.size H/\NM w.heap.size ((wq.setCell ⟨w.heap.size+1,0,none⟩ (.slice (some ⟨g,0,none⟩) ms.length ms.length)).setCell ⟨w.heap.size+1,1,none⟩ (.slice (some ⟨gl,0,none⟩) ls.length ls.length)) gl ls.length V (cn ls) H/\Below w.heap.size w ((wq.setCell ⟨w.heap.size+1,0,none⟩ (.slice (some ⟨g,0,none⟩) ms.length ms.length)).setCell ⟨w.heap.size+1,1,none⟩ (.slice (some ⟨gl,0,none⟩) ls.length ls.length))):=
         ⟨(HOQ.out.far (by omega) (Or.inl (by omega)) _ _).far (by omega) (Or.inl (by omega)) _ _,(HNF.out.far (by omega) (by omega) _ _).far (by omega) (by omega) _ _,((Zd HB.out HLQ.out).setCell (by show w.heap.size<=w.heap.size+1;omega) _).setCell (by show w.heap.size<=w.heap.size+1;omega) _⟩
        clear hIq HOQ HNQ HTQ HLQ hz tR t3 HNF hHw
        go_wp2_with fail
        refine bodyPost_ret (v:=.agg #[.slice (some ⟨g,0,none⟩) ms.length ms.length,.slice (some ⟨gl,0,none⟩) ls.length ls.length]) (by simp [results,Tryz.results181,go_sem,q0,q1]) rfl ?_
        exact⟨g,gl,rfl,⟨G,cc,V,_,_,HE.out.1,HE.out.2.1,hggl,hgll⟩,HE.out.2.2⟩
structure Zbr(gl n:Nat)(V V':Nat->Value)(w w':World):Prop where
 os:w'.os=w.os
 tape:w'.tape=w.tape
 output:w'.output=w.output
 size:w.heap.size<=w'.heap.size
 block:∀b,b<w.heap.size->b≠gl->(∀i,i<n->(V i).ownBlock≠some b)->w'.heap[b]? =w.heap[b]?
 fresh:∀i,i<n->∀q,(V' i).ownBlock=some q->(∃k,k<n/\(V k).ownBlock=some q)\/w.heap.size<=q
theorem ZhM{xs:List Int}{x:Int}(hx:x ∉ xs):(xs.map (Value.int .i64)).take (ZcR x xs)++Value.int .i64 x::(xs.map (Value.int .i64)).drop (ZcR x xs)=(Zaw xs x).map (Value.int .i64):=by
 rw [Zlr x hx,List.map_append,List.map_cons,List.map_take,List.map_drop]
theorem ZnH(base gl n cl cm lo:Nat)(am:Option Addr)(ms:List Mk)(V:Nat->Value)(X:Nat->List Int)(id other:Int)(w:World)(hm:Zq w am ms)(hmb:Zn ms=true)(hf:0<=Zv ms id)(hn:NM base w gl n V X lo)(hj:Zy ms id<n)(hr:(X (Zy ms id)).Pairwise (fun a b=>a<b))(hx:other ∉ X (Zy ms id))(hl:(X (Zy ms id)).length<=1000):
 Calls Tryz.prog 187 #[.agg #[.slice am ms.length cm,.slice (some ⟨gl,0,none⟩) n cl],.int .i64 id,.int .i64 other] w fun e w'=>e=.returned (.tuple #[])/\(∃V',NM base w' gl n V' (Zen X (Zy ms id) (Zaw (X (Zy ms id)) other)) lo/\Zbr gl n V V' w w'):=by
 obtain⟨W,hW⟩:∃W,w.alloc (.cells #[.slice am ms.length cm,.slice (some ⟨gl,0,none⟩) n cl] 47)=W:=⟨_,rfl⟩
 have hB:Below w.heap.size w W:=by rw [<-hW];exact (Below.refl _ _).alloc (Nat.le_refl _) _
 have x0:W.cell? ⟨w.heap.size,0,none⟩=some (.slice am ms.length cm):=by rw [<-hW];simp
 have x1:W.cell? ⟨w.heap.size,1,none⟩=some (.slice (some ⟨gl,0,none⟩) n cl):=by rw [<-hW];simp
 have hXl:w.heap.size<W.heap.size:=by rw [<-hW];simp
 have HP:=Za (Zis am (some ⟨gl,0,none⟩) cm n cl ms id W (hm.next hB) hmb)
 have hpi:=Zgy hmb hf
 rw [hpi,decide_eq_true hf] at HP
 obtain⟨j,hjj⟩:∃j,Zy ms id=j:=⟨_,rfl⟩
 rw [hjj] at HP hj hr hx hl ⊢
 have HN:=Za (hn.next hB)
 have HB:=Za hB
 have HPW:=Za hr
 have HNX:=Za hx
 have hj0:(0:Int)<=(j:Int):=Int.natCast_nonneg _
 have hj1:(j:Int)<(n:Int):=by omega
 have hlow:=hn.top
 have HVB:Hid (∀q,(V j).ownBlock=some q->lo<=q/\q<w.heap.size):=fun q e=>Zaq (hn.own j hj) e
 clear hm hmb hf hn hB hpi hjj hr hx
 go_enter Tryz.func187,Tryz.ntmps187
 go_wp2_with fail
 refine HP.out.mono ?_
 rintro e w1 ⟨rfl,L1⟩
 replace x0:=(L1.cell (p:=⟨w.heap.size,0,none⟩) hXl).trans x0
 replace x1:=(L1.cell (p:=⟨w.heap.size,1,none⟩) hXl).trans x1
 have hXl1:w.heap.size<w1.heap.size:=Nat.lt_of_lt_of_le hXl L1.size
 have hN1:=HN.out.next L1
 obtain⟨a,c,ev,hvw⟩:=Zcb (hN1.own j hj)
 have c1:=hN1.blk.cell hj
 rw [ev] at c1
 have HEV:=Za ev
 have HN1:=Za hN1
 have HL1:=Za (Zd HB.out L1)
 have HBS:=Za (iBsI a c (X j) other w1 hvw HPW.out (by omega))
 have hgl1:=hN1.blk.lt
 clear L1 hN1 hvw ev HP HN hW hXl
 go_wp2_with fail
 refine HBS.out.mono ?_
 rintro e w2 ⟨⟨fb,rfl⟩,L2⟩
 replace x0:=(L2.cell (p:=⟨w.heap.size,0,none⟩) hXl1).trans x0
 replace x1:=(L2.cell (p:=⟨w.heap.size,1,none⟩) hXl1).trans x1
 have hXl2:w.heap.size<w2.heap.size:=Nat.lt_of_lt_of_le hXl1 L2.size
 have HN2:=Za (HN1.out.next L2)
 have HL2:=Za (Zd HL1.out L2)
 replace c1:=(L2.cell (p:=⟨gl,j,none⟩) hgl1).trans c1
 have hpl:=Zjp other (X j)
 clear L2 HN1 HL1 HBS hXl1 hgl1
 generalize hpp:ZcR other (X j)=pp at *
 have HPP:=Za hpp
 clear hpp
 obtain⟨xl,hxl⟩:∃xl,(X j).length=xl:=⟨_,rfl⟩
 have HXL:=Za hxl
 rw [hxl] at c1 hpl hl HEV
 clear hxl
 go_wp2_with fail
 have HSS:Hid (∀W',w2.grownBy W' (V j).ownBlock->W'.cell? ⟨w.heap.size,1,none⟩=some (.slice (some ⟨gl,0,none⟩) n cl)/\W'.cell? ⟨gl,j,none⟩=some (.slice a xl c)):=fun W' hg=>by
  have hgl2:=HN2.out.blk.lt
  have hout:=HN2.out.out
  exact⟨(World.cell?_of_block (a:=⟨w.heap.size,1,none⟩) (hg.block w.heap.size hXl2 (fun e=>by have:=HVB.out _ e.symm;omega))).trans x1,(World.cell?_of_block (a:=⟨gl,j,none⟩) (hg.block gl hgl2 (fun e=>by have:=HVB.out _ e.symm;omega))).trans c1⟩
 have LD:Below w2.heap.size w2 w2.drew:=(Below.refl _ _).drew
 have GD:w2.grownBy w2.drew (V j).ownBlock:=⟨LD.os,LD.tape,LD.output,LD.size,fun k hk _=>LD.block k hk⟩
 obtain⟨w3,hw3⟩:∃w3,w2.drew.alloc (.cells #[.int .i64 other] 2)=w3:=⟨_,rfl⟩
 have L3:Below w2.heap.size w2 w3:=by rw [<-hw3];exact LD.alloc (by show w2.heap.size<=w2.drew.heap.size;exact Nat.le_refl _) _
 have G3:w2.grownBy w3 (V j).ownBlock:=⟨L3.os,L3.tape,L3.output,L3.size,fun k hk _=>L3.block k hk⟩
 have hO:One w3 w2.heap.size (.int .i64 other) 2:=by rw [<-hw3];exact heap_alloc_new w2.drew _
 have hs3:w2.heap.size<w3.heap.size:=by rw [<-hw3];simp
 have HN3:=Za (HN2.out.next L3)
 have hown:=HN3.out.own j hj
 rw [HEV.out] at hown
 have HIN:=Za (Zlp lo c pp w2.heap.size a ((X j).map (Value.int .i64)) (.int .i64 other) w3 (fun v hv=>by obtain⟨y,-,rfl⟩:=List.mem_map.1 hv;rfl) rfl (by rw [List.length_map,HXL.out];rw [HXL.out] at hown;exact hown) hO (by rw [List.length_map,HXL.out,<-HEV.out];exact fun e=>by have:=HVB.out _ e;omega) (by rw [List.length_map,HXL.out];exact hpl) (by rw [List.length_map,HXL.out];omega) HN3.out.top)
 rw [List.length_map,HXL.out,<-HEV.out] at HIN
 have HIN2:Hid (Calls Tryz.prog 241 #[.slice a xl c,.int .i64 pp,.slice (some ⟨w2.heap.size,0,none⟩) 1 1] w3 fun e w'=>∃g G,e=.returned (.slice (some ⟨g,0,none⟩) (xl+1) G)/\Zbf lo w' g G (((X j).map (Value.int .i64)).take pp++Value.int .i64 other::((X j).map (Value.int .i64)).drop pp)/\w3.grownBy w' (V j).ownBlock/\((V j).ownBlock=some g\/g=w3.heap.size)):=by
  have h:=HIN.out
  rw [HEV.out] at h
  rw [HEV.out]
  exact h
 clear hown HIN LD hO
 refine ZR (S:=fun w'=>w'.cell? ⟨w.heap.size,1,none⟩=some (.slice (some ⟨gl,0,none⟩) n cl)/\w'.cell? ⟨gl,j,none⟩=some (.slice a xl c)) (fuel:=3)
  [0,1,2,3,4,5,6,7,8,9] _ rfl (by kernel_rfl) (by kernel_rfl) (by kernel_rfl) (by kernel_rfl) (by kernel_rfl) (by kernel_rfl) (by kernel_rfl) (HSS.out _ GD) (fun hS=>?_)
 iterate 10
  refine⟨_,rfl,?_⟩
  apply Exists.intro
  refine⟨Or.inl ⟨by rfl,fun w' hw'=>?_⟩,?_⟩
  · first
    | (go_simp;done)
    | (go_simp;with_reducible rfl)
  simp only [Act.put,List.setIfInBounds_toArray]
 refine Zc 10 (by kernel_rfl) rfl (fun K hK=>?_)
 go_simp
 refine hK.out _ _ (HSS.out _ G3) (fun _=>?_)
 clear hK K
 refine Zc 11 (by kernel_rfl) rfl (fun K hK=>?_)
 go_simp
 refine HIN2.out.mono ?_
 rintro e w4 ⟨g4,c4,rfl,hv4,G4,hat4⟩
 have G24:w2.grownBy w4 (V j).ownBlock:=⟨G4.os.trans G3.os,G4.tape.trans G3.tape,G4.output.trans G3.output,Nat.le_trans G3.size G4.size,fun k hk hne=>(G4.block k (Nat.lt_of_lt_of_le hk G3.size) hne).trans (G3.block k hk hne)⟩
 refine hK.out _ _ (HSS.out _ G24) (fun _=>?_)
 clear hK K
 refine Zc 12 (by kernel_rfl) rfl (fun K hK=>?_)
 go_simp
 refine hK.out _ _ (HSS.out _ G24) (fun _=>?_)
 clear hK K hS
 have hlen:(Zaw (X j) other).length=xl+1:=by
  have h:=congrArg List.length (ZhM HNX.out)
  rw [HPP.out] at h
  simp only [List.length_append,List.length_cons,List.length_take,List.length_drop,List.length_map] at h
  have:=HXL.out
  omega
 have ho4:w4.ownsRow lo 2 1 (.slice (some ⟨g4,0,none⟩) (xl+1) c4) (Zaw (X j) other).length ((Zaw (X j) other).map (Value.int .i64)):=by
  have h:=hv4
  unfold Zbf at h
  rw [<-HPP.out,ZhM HNX.out,List.length_map,hlen] at h
  rw [hlen]
  exact h
 have HPT:=Za (HN3.out.put hj ho4 G4 (by
  rcases hat4 with e | e
  · exact Or.inr (Or.inl (by rw [e];rfl))
  · exact Or.inr (Or.inr ⟨g4,rfl,by omega⟩)))
 have hb4:=HN3.out.blk.same (G4.block gl HN3.out.blk.lt (fun e=>by have:=HVB.out _ e.symm;have:=HN3.out.out;omega))
 have f0:=hb4.frozen j
 have e0:=(HSS.out _ G24).2
 have HCH:Hid (Zbr gl n V (ZaX V j (.slice (some ⟨g4,0,none⟩) (xl+1) c4)) w (w4.setCell ⟨gl,j,none⟩ (.slice (some ⟨g4,0,none⟩) (xl+1) c4))):=by
  have hsz:=HL2.out.size
  refine⟨G24.os.trans HL2.out.os,G24.tape.trans HL2.out.tape,G24.output.trans HL2.out.output,by rw [Zb];exact Nat.le_trans hsz G24.size,fun b hb h1 h2=>?_,fun i hi q hq=>?_⟩
  · exact (Below.heap_setCell w4 ⟨gl,j,none⟩ _ b (fun e=>h1 e)).trans ((G24.block b (by omega) (fun e=>h2 j hj e.symm)).trans (HL2.out.block b hb))
  · unfold ZaX at hq
    by_cases e:i=j
    · rw [if_pos e] at hq
      have hq':g4=q:=by injection hq
      rcases hat4 with h | h
      · exact Or.inl ⟨j,hj,by rw [h,hq']⟩
      · right;omega
    · rw [if_neg e] at hq
      exact Or.inl ⟨i,hi,hq⟩
 clear hv4 G4 G24 G3 GD L3 hat4 ho4 hb4 HIN2 HSS HN3 HN2 hw3 x0 x1 c1
 refine wpAnyH_done (by kernel_rfl) ?_ _
 simp only [Exit.then]
 go_wp2_with fail
 refine NoPanic.normal ?_
 go_wp2_with fail
 exact bodyPost_end (v:=.tuple #[]) (by simp [results,Tryz.results187,go_sem]) rfl ⟨rfl,_,HPT.out,HCH.out⟩
end Go.Proofs.YtaaagmgglolibaaGreat
namespace Go.Proofs.YtaaagmgglolibaaGreat
open Go Go.RowKit Go.Deep
theorem ZlW{w:World}{am:Option Addr}{ms:List Mk}(h:Zq w am ms):∃ss:List Sm,Zdm w am ss/\Zbc ss=ms/\Zga w ss/\ss.length=ms.length:=by
 rcases h with rfl | ⟨b,off,rfl,hb,hs⟩
 · exact⟨[],Or.inl rfl,rfl,(fun x hx=>by cases hx),rfl⟩
 · have each:∀i,i<ms.length->∃q:Sm,w.cell? ⟨b,off+i*2,none⟩=some (.int .i64 q.1)/\w.cell? ⟨b,off+i*2+1,none⟩=some (.slice q.2.1 q.2.2.2.length q.2.2.1)/\Zs w q.2.1 q.2.2.2/\ZgP q=ZH ms i:=by
    intro i hi
    obtain⟨c0,ao,ca,c1,hv⟩:=hs.at (i:=i) hi
    exact⟨(mid ms i,ao,ca,mat ms i),c0,c1,hv,rfl⟩
   obtain⟨q,hq⟩:=choose_lt each
   have hl:((List.range ms.length).map q).length=ms.length:=by simp
   have hat:∀i,i<ms.length->ZcW ((List.range ms.length).map q) i=q i:=fun i hi=>by simp [ZcW,List.getD,hi]
   refine⟨(List.range ms.length).map q,Or.inr ⟨b,off,rfl,hb,fun i hi=>?_⟩,?_,?_,hl⟩
   · rw [hl] at hi
     rw [hat i hi]
     exact⟨(hq i hi).1,(hq i hi).2.1⟩
   · refine List.ext_getElem (by simp [Zbc]) (fun i h1 h2=>?_)
     have:=(hq i h2).2.2.2
     simp only [Zbc,List.getElem_map,List.getElem_range]
     rw [this]
     simp [ZH,List.getD,h2]
   · intro x hx
     obtain⟨i,hi,rfl⟩:=List.mem_map.1 hx
     exact (hq i (List.mem_range.1 hi)).2.2.1
def Zon(base:Nat)(w:World)(v:Value)(ms:List Mk)(ls:List (List Int))(m:Mk)(most:Int):Prop:=
 (ZaL ms ls m most=false/\v=.agg #[.slice none 0 0,.slice none 0 0])\/(ZaL ms ls m most=true/\∃g gl,v=.agg #[.slice (some ⟨g,0,none⟩) (ms.length+1) (ms.length+1),.slice (some ⟨gl,0,none⟩) (ms.length+1) (ms.length+1)]/\Zed base w g gl (ms++[m]) (cn (Zcx ms ls (ZbS ms m.2 most) m.1)) (ms.length+1))
theorem ZiU{w:World}{al:Option Addr}{ls:List (List Int)}(h:Z8 w al ls):∃vs:List Value,vs.length=ls.length/\ZV w 1 al vs.length vs/\(∀a,al=some a->vs≠[]->a.block<w.heap.size)/\∀i,i<ls.length->∃a c,vs[i]? =some (.slice a (cn ls i).length c)/\Zs w a (cn ls i):=by
 rcases h with rfl | ⟨b,off,rfl,hb,hs⟩
 · exact⟨[],rfl,⟨rfl,(fun u hu=>by cases hu),Or.inl rfl⟩,(fun a _ h=>absurd rfl h),fun i hi=>by simp at hi⟩
 · have each:∀i,i<ls.length->∃v:Value,w.cell? ⟨b,off+i,none⟩=some v/\v.oneCell'=true/\∃a c,v=.slice a (cn ls i).length c/\Zs w a (cn ls i):=by
    intro i hi
    obtain⟨a,c,h1,h2⟩:=hs i hi
    exact⟨_,h1,rfl,a,c,rfl,h2⟩
   obtain⟨f,hf⟩:=choose_lt each
   refine⟨(List.range ls.length).map f,by simp,⟨by simp,fun u hu=>?_,Or.inr ⟨_,rfl,fun j u hu=>?_⟩⟩,fun a e _=>by injection e with e;rw [<-e];exact hb,fun i hi=>?_⟩
   · obtain⟨i,hi,rfl⟩:=List.mem_map.1 hu
     exact (hf i (List.mem_range.1 hi)).2.1
   · rw [Go.WideShapes.add_plain]
     have hj:j<ls.length:=by
      rcases Nat.lt_or_ge j ls.length with h1 | h1
      · exact h1
      · rw [List.getElem?_eq_none (by simp;exact h1)] at hu;cases hu
     rw [List.getElem?_map,List.getElem?_range hj] at hu
     injection hu with hu
     rw [<-hu]
     exact (hf j hj).1
   · obtain⟨h1,h2,a,c,h3,h4⟩:=hf i hi
     exact⟨a,c,by rw [List.getElem?_map,List.getElem?_range hi];show some (f i)=_;rw [h3],h4⟩
theorem ZlX{base:Nat}{w:World}{g c:Nat}{vs:List Value}{ls:List (List Int)}(h:VR base w g c (vs++[.slice none 0 0]))(hl:vs.length=ls.length)(hv:∀i,i<ls.length->∃a c,vs[i]? =some (.slice a (cn ls i).length c)/\Zs w a (cn ls i)):Z8 w (some ⟨g,0,none⟩) (ls++[[]]):=by
 refine Or.inr ⟨g,0,rfl,h.lt.2,fun i hi=>?_⟩
 have hi':i<ls.length+1:=by simpa using hi
 rw [Nat.zero_add,World.ownsRow.cellAt h i (by simp;omega)]
 rcases Nat.lt_or_ge i ls.length with e | e
 · obtain⟨a,c,h1,h2⟩:=hv i e
   have ec:cn (ls++[[]]) i=cn ls i:=by simp [cn,List.getD,List.getElem?_append_left e]
   rw [ec,List.getElem?_append_left (by omega)]
   exact⟨a,c,h1,h2⟩
 · obtain rfl:i=ls.length:=by omega
   have ec:cn (ls++[[]]) ls.length=[]:=by simp [cn,List.getD]
   rw [ec,<-hl]
   exact⟨none,0,by simp,Or.inl rfl⟩
theorem Zbr.trans{gl n:Nat}{V V1 V2:Nat->Value}{w w1 w2:World}(h:Zbr gl n V V1 w w1)(k:Zbr gl n V1 V2 w1 w2):Zbr gl n V V2 w w2:=by
 refine⟨k.os.trans h.os,k.tape.trans h.tape,k.output.trans h.output,Nat.le_trans h.size k.size,fun b hb h1 h2=>?_,fun i hi q hq=>?_⟩
 · refine (k.block b (Nat.lt_of_lt_of_le hb h.size) h1 (fun i hi e=>?_)).trans (h.block b hb h1 h2)
   rcases h.fresh i hi b e with ⟨j,hj,e2⟩ | e2
   · exact h2 j hj e2
   · omega
 · rcases k.fresh i hi q hq with ⟨j,hj,e2⟩ | e2
   · rcases h.fresh j hj q e2 with h3 | h3
     · exact Or.inl h3
     · exact Or.inr h3
   · exact Or.inr (Nat.le_trans h.size e2)
theorem Zbr.below{gl n:Nat}{V V1:Nat->Value}{w w1 w2:World}(h:Zbr gl n V V1 w w1)(L:Below w1.heap.size w1 w2):Zbr gl n V V1 w w2:=
 ⟨L.os.trans h.os,L.tape.trans h.tape,L.output.trans h.output,Nat.le_trans h.size L.size,fun b hb h1 h2=>(L.block b (Nat.lt_of_lt_of_le hb h.size)).trans (h.block b hb h1 h2),h.fresh⟩
theorem Zbr.refl(gl n:Nat)(V:Nat->Value)(w:World):Zbr gl n V V w w:=⟨rfl,rfl,rfl,Nat.le_refl _,fun _ _ _ _=>rfl,fun i hi _ hq=>Or.inl ⟨i,hi,hq⟩⟩
theorem Zag.chg{base:Nat}{w w':World}{g gl n:Nat}{ms:List Mk}{G cc:Nat->Nat}{V V1:Nat->Value}{lo hi:Nat}(h:Zag base w g ms.length ms G cc lo hi)(k:Zbr gl n V V1 w w')(hg:g≠gl)(hgl:gl<lo)(hV:∀i,i<n->∀q,(V i).ownBlock=some q->hi<=q)(hgh:g<hi):Zag base w' g ms.length ms G cc lo hi:=
 ⟨h.blk.same (k.block g h.blk.lt hg (fun i hi' e=>by have:=hV i hi' g e;omega)),fun i hi'=>by
  have hw:=h.within i hi'
  have hr:=h.rows i hi'
  have e:=k.block (G i) hr.lt.2 (by omega) (fun j hj e=>by have:=hV j hj _ e;omega)
  obtain⟨h1,h2 | ⟨g',c',cur,e1,h3,h4,h5⟩⟩:=hr
  · exact⟨h1,Or.inl h2⟩
  · refine⟨h1,Or.inr ⟨g',c',cur,e1,h3,?_,h5⟩⟩
    injection e1 with e1 e2 e3
    injection e1 with e1
    injection e1 with e1
    rw [<-e1,e,e1]
    exact h4,h.rise,h.within,Nat.le_trans h.top k.size,h.ge,h.out⟩
theorem Zag.low{base base':Nat}{w:World}{g k:Nat}{ms:List Mk}{G cc:Nat->Nat}{lo hi:Nat}(h:Zag base w g k ms G cc lo hi)(hb:base'<=base):Zag base' w g k ms G cc lo hi:=
 ⟨h.blk,fun i hi'=>(h.rows i hi').mono hb,h.rise,h.within,h.top,Nat.le_trans hb h.ge,h.out⟩
theorem NM.low{base base':Nat}{w:World}{g n:Nat}{V:Nat->Value}{X:Nat->List Int}{lo:Nat}(h:NM base w g n V X lo)(hb:base'<=base):NM base' w g n V X lo:=
 ⟨h.blk,h.own,h.apart,Nat.le_trans hb h.ge,h.out,h.top⟩
theorem Zdc{gl n b:Nat}{V V1:Nat->Value}{w w':World}{x y:Value}{t:TypeId}(h:Two w b x y t)(k:Zbr gl n V V1 w w')(h1:b≠gl)(h2:∀i,i<n->(V i).ownBlock≠some b):Two w' b x y t:=(k.block b h.lt h1 h2).trans h
theorem ZmN(am al ao:Option Addr)(cm cl ca:Nat)(ms:List Mk)(ls:List (List Int))(m:Mk)(most:Int)(w:World)(hm:Zq w am ms)(hl:Z8 w al ls)(hsm:ZX ms)(hcs:ZaZ ls)(hcm:ms.length<=cm)(hcl:ls.length<=cl)(hv:Zs w ao m.2)(hn:m.2.length<=1048576):
 Calls Tryz.prog 104 #[.agg #[.slice am ms.length cm,.slice al ls.length cl],.agg #[.int .i64 m.1,.slice ao m.2.length ca],.int .i64 most] w fun e w'=>∃v,e=.returned (.tuple #[v,.bool (ZaL ms ls m most)])/\Zon w.heap.size w' v ms ls m most/\Below w.heap.size w w':=by
 obtain⟨W1,hW1⟩:∃W,w.alloc (.cells #[.slice am ms.length cm,.slice al ls.length cl] 47)=W:=⟨_,rfl⟩
 obtain⟨W2,hW2⟩:∃W,W1.alloc (.cells #[.int .i64 m.1,.slice ao m.2.length ca] 29)=W:=⟨_,rfl⟩
 obtain⟨W3,hW3⟩:∃W,W2.alloc (.cells #[.slice none 0 0,.slice none 0 0] 47)=W:=⟨_,rfl⟩
 obtain⟨W4,hW4⟩:∃W,W3.alloc (.cells #[.int .i64 m.1,.slice ao m.2.length ca] 29)=W:=⟨_,rfl⟩
 have s1:W1.heap.size=w.heap.size+1:=by rw [<-hW1];simp
 have s2:W2.heap.size=w.heap.size+1+1:=by rw [<-hW2];simp [s1]
 have s3:W3.heap.size=w.heap.size+1+1+1:=by rw [<-hW3];simp [s2]
 have s4:W4.heap.size=w.heap.size+1+1+1+1:=by rw [<-hW4];simp [s3]
 obtain⟨W,hW⟩:∃W,W4.alloc (.cells #[.slice am ms.length cm,.slice (some ⟨w.heap.size+1+1+1,0,none⟩) 1 1] 44)=W:=⟨_,rfl⟩
 have b1:Below w.heap.size w W1:=by rw [<-hW1];exact (Below.refl _ _).alloc (Nat.le_refl _) _
 have b2:Below W1.heap.size W1 W2:=by rw [<-hW2];exact (Below.refl _ _).alloc (Nat.le_refl _) _
 have b3:Below W2.heap.size W2 W3:=by rw [<-hW3];exact (Below.refl _ _).alloc (Nat.le_refl _) _
 have b4:Below W3.heap.size W3 W4:=by rw [<-hW4];exact (Below.refl _ _).alloc (Nat.le_refl _) _
 have b5:Below W4.heap.size W4 W:=by rw [<-hW];exact (Below.refl _ _).alloc (Nat.le_refl _) _
 have hI:Zac W w.heap.size am cm ms al cl ls:=by
  have h1:Zac W1 w.heap.size am cm ms al cl ls:=by rw [<-hW1];exact Zac.box hm hl
  exact (((h1.below b2).below b3).below b4).below b5
 have TM:Two W (w.heap.size+1) (.int .i64 m.1) (.slice ao m.2.length ca) 29:=by
  have h1:Two W2 (w.heap.size+1) (.int .i64 m.1) (.slice ao m.2.length ca) 29:=by rw [<-hW2,<-s1];exact Two.new W1 _ _ _
  exact ((h1.below b3).below b4).below b5
 have TR:Two W (w.heap.size+1+1) (.slice none 0 0) (.slice none 0 0) 47:=by
  have h1:Two W3 (w.heap.size+1+1) (.slice none 0 0) (.slice none 0 0) 47:=by rw [<-hW3,<-s2];exact Two.new W2 _ _ _
  exact (h1.below b4).below b5
 have TA:Two W (w.heap.size+1+1+1) (.int .i64 m.1) (.slice ao m.2.length ca) 29:=by
  have h1:Two W4 (w.heap.size+1+1+1) (.int .i64 m.1) (.slice ao m.2.length ca) 29:=by rw [<-hW4,<-s3];exact Two.new W3 _ _ _
  exact h1.below b5
 have TB:Two W (w.heap.size+1+1+1+1) (.slice am ms.length cm) (.slice (some ⟨w.heap.size+1+1+1,0,none⟩) 1 1) 44:=by rw [<-hW,<-s4];exact Two.new W4 _ _ _
 have hB:Below w.heap.size w W:=Zd (Zd (Zd (Zd b1 b2) b3) b4) b5
 have sW:w.heap.size+1+1+1+1<W.heap.size:=TB.lt
 obtain⟨ss,hss,hsmk,hsl,hslen⟩:=ZlW hI.mv
 have HCT:=Za (ZlY (w.heap.size+1+1+1+1) 2 [(am,cm,ss),(some ⟨w.heap.size+1+1+1,0,none⟩,1,[(m.1,ao,ca,m.2)])] W sW
  (fun i hi=>by
    have hi2:i<2:=hi
    rcases (show i=0\/i=1 by omega) with rfl | rfl
    · show W.cell? _=some (.slice am ss.length cm);rw [hslen];exact TB.c0
    · exact TB.c1)
  (fun i hi=>by
    have hi2:i<2:=hi
    rcases (show i=0\/i=1 by omega) with rfl | rfl
    · exact hss
    · exact Or.inr ⟨_,0,rfl,TA.lt,fun k hk=>by
       have hk1:k=0:=by simpa using hk
       subst hk1
       exact⟨TA.c0,TA.c1⟩⟩)
  (by simp) (by have:=hsm.1;simp [Zbj];omega) (by simp [Zbj]))
 have hcat:Zbj [(am,cm,ss),(some ⟨w.heap.size+1+1+1,0,none⟩,1,[(m.1,ao,ca,m.2)])]=ss++[(m.1,ao,ca,m.2)]:=by simp [Zbj]
 rw [hcat] at HCT
 have HMK:Hid (Zbc (ss++[(m.1,ao,ca,m.2)])=ms++[m]):=by show _=_;rw [ZgQ,hsmk]
 have HLI:Hid (Zga W (ss++[(m.1,ao,ca,m.2)])):=hsl.snoc (hv.next hB)
 have hlen2:(ss++[(m.1,ao,ca,m.2)]).length=ms.length+1:=by rw [List.length_append,hslen];rfl
 rw [hlen2] at HCT
 have HWW:Hid (((((w.alloc (.cells #[.slice am ms.length cm,.slice al ls.length cl] 47)).alloc (.cells #[.int .i64 m.1,.slice ao m.2.length ca] 29)).alloc (.cells #[.slice none 0 0,.slice none 0 0] 47)).alloc (.cells #[.int .i64 m.1,.slice ao m.2.length ca] 29)).alloc (.cells #[.slice am ms.length cm,.slice (some ⟨w.heap.size+1+1+1,0,none⟩) 1 1] 44)=W):=by show _=_;rw [hW1,hW2,hW3,hW4,hW]
 have HB:=Za hB
 have HI:=Za hI
 have HTM:=Za TM
 have HTR:=Za TR
 have HSW:=Za sW
 have HVM:=Za (hv.next hB)
 have HSM:=Za hsm
 have HCS:=Za hcs
 clear hm hl hv s1 s2 s3 s4 b1 b2 b3 b4 b5 hW1 hW2 hW3 hW4 hW hI TM TR TA TB hB sW hss hsmk hsl hcat hsm hcs
 go_enter Tryz.func104,Tryz.ntmps104
 go_wp2_with fail
 rw [HWW.out]
 refine HCT.out.mono ?_
 rintro e w1 ⟨g1,c1,rfl,hr1,L1⟩
 have hmv1:=hr1.view HLI.out L1
 rw [HMK.out] at hmv1
 have HMV1:=Za hmv1
 have hI1:=HI.out.below L1
 have HTR1:=Za (HTR.out.below L1)
 have HTM1:=Za (HTM.out.below L1)
 have HVM1:=Za (HVM.out.next L1)
 have HB1:=Za (Zd HB.out L1)
 have HI1:=Za hI1
 have k0:=hI1.c0
 have k1:=hI1.c1
 have HWE:=Za (Zhl am cm ms al cl ls w1 hI1.mv hI1.cv HSM.out HCS.out hcm hcl)
 have HSW1:Hid (w.heap.size+1+1+1+1<w1.heap.size):=Nat.lt_of_lt_of_le HSW.out L1.size
 clear hr1 L1 hmv1 hI1 HCT HWW HI HTR HTM HVM HB HLI HMK hlen2 hslen HSW
 by_cases hm1:most<1
 · have HLB:Hid (ZaL ms ls m most=false):=by show _=_;unfold ZaL ZfY;rw [decide_eq_false (show ¬1<=most by omega)];simp
   have tR:=HTR1.out
   have r0:=tR.c0
   have r1:=tR.c1
   have rf0:=tR.frozen 0
   have rf1:=tR.frozen 1
   have t3:=(tR.set0 (.slice none 0 0)).set1 (.slice none 0 0)
   have q0:=t3.c0
   have q1:=t3.c1
   have HBF:Hid (Below w.heap.size w ((w1.setCell ⟨w.heap.size+1+1,0,none⟩ (.slice none 0 0)).setCell ⟨w.heap.size+1+1,1,none⟩ (.slice none 0 0))):=((HB1.out).setCell (by show w.heap.size<=w.heap.size+1+1;omega) _).setCell (by show w.heap.size<=w.heap.size+1+1;omega) _
   clear tR t3
   go_wp2_with fail
   refine bodyPost_ret (v:=.tuple #[.agg #[.slice none 0 0,.slice none 0 0],.bool false]) (by simp [results,Tryz.results104,go_sem,q0,q1]) rfl ?_
   exact⟨_,by rw [HLB.out],Or.inl ⟨HLB.out,rfl⟩,HBF.out⟩
 by_cases hm8:most > 8
 · have HLB:Hid (ZaL ms ls m most=false):=by show _=_;unfold ZaL ZfY;rw [decide_eq_false (show ¬most<=8 by omega)];simp
   have tR:=HTR1.out
   have r0:=tR.c0
   have r1:=tR.c1
   have rf0:=tR.frozen 0
   have rf1:=tR.frozen 1
   have t3:=(tR.set0 (.slice none 0 0)).set1 (.slice none 0 0)
   have q0:=t3.c0
   have q1:=t3.c1
   have HBF:Hid (Below w.heap.size w ((w1.setCell ⟨w.heap.size+1+1,0,none⟩ (.slice none 0 0)).setCell ⟨w.heap.size+1+1,1,none⟩ (.slice none 0 0))):=((HB1.out).setCell (by show w.heap.size<=w.heap.size+1+1;omega) _).setCell (by show w.heap.size<=w.heap.size+1+1;omega) _
   clear tR t3
   go_wp2_with fail
   refine bodyPost_ret (v:=.tuple #[.agg #[.slice none 0 0,.slice none 0 0],.bool false]) (by simp [results,Tryz.results104,go_sem,q0,q1]) rfl ?_
   exact⟨_,by rw [HLB.out],Or.inl ⟨HLB.out,rfl⟩,HBF.out⟩
 have HMO:Hid (ZfY most=true):=by show _=_;unfold ZfY;rw [decide_eq_true (show 1<=most by omega),decide_eq_true (show most<=8 by omega)];rfl
 rcases hwb:Zab ms ls with _ | _
 · have HLB:Hid (ZaL ms ls m most=false):=by show _=_;unfold ZaL;rw [hwb];simp
   rw [hwb] at HWE
   clear hwb
   go_wp2_with fail
   refine HWE.out.mono ?_
   rintro e w2 ⟨rfl,L2⟩
   have tR:=HTR1.out.below L2
   have r0:=tR.c0
   have r1:=tR.c1
   have rf0:=tR.frozen 0
   have rf1:=tR.frozen 1
   have t3:=(tR.set0 (.slice none 0 0)).set1 (.slice none 0 0)
   have q0:=t3.c0
   have q1:=t3.c1
   have HBF:Hid (Below w.heap.size w ((w2.setCell ⟨w.heap.size+1+1,0,none⟩ (.slice none 0 0)).setCell ⟨w.heap.size+1+1,1,none⟩ (.slice none 0 0))):=((Zd HB1.out L2).setCell (by show w.heap.size<=w.heap.size+1+1;omega) _).setCell (by show w.heap.size<=w.heap.size+1+1;omega) _
   clear tR t3
   clear L2
   go_wp2_with fail
   refine bodyPost_ret (v:=.tuple #[.agg #[.slice none 0 0,.slice none 0 0],.bool false]) (by simp [results,Tryz.results104,go_sem,q0,q1]) rfl ?_
   exact⟨_,by rw [HLB.out],Or.inl ⟨HLB.out,rfl⟩,HBF.out⟩
 rw [hwb] at HWE
 have HWB:=Za hwb
 have h60:=ZA (ZJ hwb)
 have HMS2:Hid (ZX (ms++[m])):=⟨by simp;omega,fun i=>by
  rcases Nat.lt_or_ge i ms.length with e | e
  · rw [Zhd e];exact HSM.out.2 i
  · rcases Nat.lt_or_ge ms.length i with e2 | e2
    · simp [mat,List.getD,show ms.length+1<=i by omega]
    · rw [show i=ms.length by omega,Zhe];exact hn⟩
 clear hwb
 go_wp2_with fail
 refine HWE.out.mono ?_
 rintro e w2 ⟨rfl,L2⟩
 have hmk2:=ZgB (some ⟨g1,0,none⟩) c1 (ms++[m]) w2 (HMV1.out.next L2) HMS2.out
 rw [show (ms++[m]).length=ms.length+1 by simp] at hmk2
 have HMK2:=Za hmk2
 clear hmk2
 rcases hmb:Zn (ms++[m]) with _ | _
 · have HLB:Hid (ZaL ms ls m most=false):=by show _=_;unfold ZaL;rw [hmb];simp
   rw [hmb] at HMK2
   clear hmb
   have HL2:=Za L2
   clear L2 k0 k1
   go_wp2_with fail
   refine HMK2.out.mono ?_
   rintro e w3 ⟨rfl,L3⟩
   have tR:=(HTR1.out.below HL2.out).below L3
   have r0:=tR.c0
   have r1:=tR.c1
   have rf0:=tR.frozen 0
   have rf1:=tR.frozen 1
   have t3:=(tR.set0 (.slice none 0 0)).set1 (.slice none 0 0)
   have q0:=t3.c0
   have q1:=t3.c1
   have HBF:Hid (Below w.heap.size w ((w3.setCell ⟨w.heap.size+1+1,0,none⟩ (.slice none 0 0)).setCell ⟨w.heap.size+1+1,1,none⟩ (.slice none 0 0))):=((Zd (Zd HB1.out HL2.out) L3).setCell (by show w.heap.size<=w.heap.size+1+1;omega) _).setCell (by show w.heap.size<=w.heap.size+1+1;omega) _
   clear tR t3
   clear L3
   go_wp2_with fail
   refine bodyPost_ret (v:=.tuple #[.agg #[.slice none 0 0,.slice none 0 0],.bool false]) (by simp [results,Tryz.results104,go_sem,q0,q1]) rfl ?_
   exact⟨_,by rw [HLB.out],Or.inl ⟨HLB.out,rfl⟩,HBF.out⟩
 rw [hmb] at HMK2
 have HMB:=Za hmb
 have HLB:Hid (ZaL ms ls m most=true):=by show _=_;unfold ZaL;rw [HWB.out,HMO.out,hmb];rfl
 have HL2:=Za L2
 clear hmb L2 k0 k1 HWE
 go_wp2_with fail
 refine HMK2.out.mono ?_
 rintro e w3 ⟨rfl,L3⟩
 have L13:=Zd HL2.out L3
 have hI3:=HI1.out.below L13
 have HI3:=Za hI3
 have HTR3:=Za (HTR1.out.below L13)
 have HTM3:=Za (HTM1.out.below L13)
 have HVM3:=Za (HVM1.out.next L13)
 have HMV3:=Za (HMV1.out.next L13)
 have HB3:=Za (Zd HB1.out L13)
 have k0:=hI3.c0
 have k1:=hI3.c1
 have HSW3:Hid (w.heap.size+1+1+1+1<w3.heap.size):=Nat.lt_of_lt_of_le HSW1.out L13.size
 clear L3 L13 hI3 HI1 HTR1 HTM1 HVM1 HMV1 HB1 HSW1 HMK2 HL2
 have hll:=Za5 HWB.out
 obtain⟨vs,hvl,hsrc,hsb,hvv⟩:=ZiU HI3.out.cv
 obtain⟨V1,hV1⟩:∃V1,w3.alloc (.cells #[.slice none 0 0] 27)=V1:=⟨_,rfl⟩
 obtain⟨V2,hV2⟩:∃V2,V1.alloc (.cells #[.slice al ls.length cl,.slice (some ⟨w3.heap.size,0,none⟩) 1 1] 45)=V2:=⟨_,rfl⟩
 have sv1:V1.heap.size=w3.heap.size+1:=by rw [<-hV1];simp
 have LV1:Below w3.heap.size w3 V1:=by rw [<-hV1];exact (Below.refl _ _).alloc (Nat.le_refl _) _
 have LV2:Below V1.heap.size V1 V2:=by rw [<-hV2];exact (Below.refl _ _).alloc (Nat.le_refl _) _
 have LV:=Zd LV1 LV2
 have OA:One V2 w3.heap.size (.slice none 0 0) 27:=by
  have h1:One V1 w3.heap.size (.slice none 0 0) 27:=by rw [<-hV1];exact One.new w3 _ _
  exact h1.below LV2
 have TB:Two V2 (w3.heap.size+1) (.slice al ls.length cl) (.slice (some ⟨w3.heap.size,0,none⟩) 1 1) 45:=by rw [<-hV2,<-sv1];exact Two.new V1 _ _ _
 have HCL:=Za (ZlZ (w3.heap.size+1) 2 [(al,cl,vs),(some ⟨w3.heap.size,0,none⟩,1,[.slice none 0 0])] V2 TB.lt
  (fun i hi=>by
    have hi2:i<2:=hi
    rcases (show i=0\/i=1 by omega) with rfl | rfl
    · show V2.cell? _=some (.slice al vs.length cl);rw [hvl];exact TB.c0
    · exact TB.c1)
  (fun i hi=>by
    have hi2:i<2:=hi
    rcases (show i=0\/i=1 by omega) with rfl | rfl
    · exact⟨Zgb hsrc hsb LV,fun a e h=>Nat.lt_of_lt_of_le (hsb a e h) LV.size⟩
    · refine⟨⟨rfl,fun u hu=>by simp at hu;subst hu;rfl,Or.inr ⟨_,rfl,World.news_of_block (cs:=#[.slice none 0 0]) OA⟩⟩,fun a e _=>by injection e with e;rw [<-e];exact OA.lt⟩)
  (by simp) (by have:=HCS.out.1;simp [Zbk];omega) (by simp [Zbk]))
 have hcat:Zbk [(al,cl,vs),(some ⟨w3.heap.size,0,none⟩,1,[.slice none 0 0])]=vs++[.slice none 0 0]:=by simp [Zbk]
 rw [hcat] at HCL
 rw [show (vs++[Value.slice none 0 0]).length=ms.length+1 by simp;omega] at HCL
 have HLV:=Za LV
 have HVW:Hid ((w3.alloc (.cells #[.slice none 0 0] 27)).alloc (.cells #[.slice al ls.length cl,.slice (some ⟨w3.heap.size,0,none⟩) 1 1] 45)=V2):=by show _=_;rw [hV1,hV2]
 have HVV:=Za (And.intro hvl hvv)
 have HLLN:=Za hll
 clear hsrc hsb hvl hvv sv1 LV1 LV2 LV OA TB hcat hV1 hV2 hll
 go_wp2_with fail
 rw [HVW.out]
 refine HCL.out.mono ?_
 rintro e w4 ⟨g4,c4,rfl,hr4,L4⟩
 have L34:=Zd HLV.out L4
 have hcv4:=ZlX hr4 HVV.out.1 (fun i hi=>by obtain⟨a,c,h1,h2⟩:=HVV.out.2 i hi;exact⟨a,c,h1,h2.next L34⟩)
 have HCS2:Hid (ZaZ (ls++[[]])):=⟨by have:=HLLN.out;simp;omega,fun i=>by
  rcases Nat.lt_or_ge i ls.length with e | e
  · have ec:cn (ls++[[]]) i=cn ls i:=by simp [cn,List.getD,List.getElem?_append_left e]
    rw [ec];exact HCS.out.2 i
  · rcases Nat.lt_or_ge ls.length i with e2 | e2
    · simp [cn,List.getD,show ls.length+1<=i by omega]
    · rw [show i=ls.length by omega];simp [cn,List.getD]⟩
 have how:=Zjz (some ⟨g1,0,none⟩) (some ⟨g4,0,none⟩) c1 c4 (ms++[m]) (ls++[[]]) w4 (HMV3.out.next L34) hcv4 HMB.out HMS2.out HCS2.out
 rw [show (ms++[m]).length=ms.length+1 by simp,show (ls++([[]]:List (List Int))).length=ms.length+1 by have:=HLLN.out;simp;omega] at how
 have HOW:=Za how
 have HL34:=Za L34
 clear hr4 L4 L34 hcv4 how HCL HVW HVV HLV
 go_wp2_with fail
 refine HOW.out.mono ?_
 rintro e w5 ⟨g,gl,rfl,hown,L5⟩
 obtain⟨G,cc,V,lo,hi,hop,hnm,hggl,hgllo⟩:=hown
 have HVlt:Hid (∀i,i<ms.length+1->∀q,(V i).ownBlock=some q->hi<=q/\q<w5.heap.size):=fun i hi' q hq=>Zaq (hnm.own i hi') hq
 have hge1:=hop.ge
 have hge2:=hnm.ge
 have hout1:=hop.out
 have hout2:=hnm.out
 have hw0:=hop.within 0 (by simp)
 have hgl5:=hnm.blk.lt
 obtain⟨w6,hw6⟩:∃w6,w5.alloc (.cells #[.slice (some ⟨g,0,none⟩) (ms.length+1) (ms.length+1),.slice (some ⟨gl,0,none⟩) (ms.length+1) (ms.length+1)] 47)=w6:=⟨_,rfl⟩
 have L6:Below w5.heap.size w5 w6:=by rw [<-hw6];exact (Below.refl _ _).alloc (Nat.le_refl _) _
 have TO:Two w6 w5.heap.size (.slice (some ⟨g,0,none⟩) (ms.length+1) (ms.length+1)) (.slice (some ⟨gl,0,none⟩) (ms.length+1) (ms.length+1)) 47:=by rw [<-hw6];exact Two.new w5 _ _ _
 have L36:=Zd (Zd HL34.out L5) L6
 have hI6:=HI3.out.below L36
 have HNE:=Za (ZnG am ao cm ca ms m.2 most w6 hI6.mv (HVM3.out.next L36) HSM.out hn)
 have k6:=hI6.c0
 have tm:=HTM3.out.below L36
 have t0:=tm.c0
 have t1:=tm.c1
 have HOP6:=Za (hop.next L6)
 have HNM6:=Za (hnm.next L6)
 have hO6:=TO.lt
 have HTO:=Za TO
 have HL36:=Za L36
 have HL5:=Za L5
 have HTM6:=Za tm
 have HTR6:=Za (HTR3.out.below L36)
 have HB6:=Za (Zd HB3.out L36)
 have hw4s:w.heap.size+1+1+1+1<w4.heap.size:=Nat.lt_of_lt_of_le HSW3.out HL34.out.size
 have h45:=L5.size
 clear hop hnm L5 L6 L36 hI6 tm TO HOW HCS2 k0 k1
 go_wp2_with fail
 clear hw6
 refine HNE.out.mono ?_
 rintro e w7 ⟨v7,rfl,hh7,L7⟩
 obtain⟨ah,ch,rfl,hhv⟩:=hh7.view
 have HHB:Hid (∀b off,ah=some ⟨b,off,none⟩->Z1 ms m.2 most≠[]->w6.heap.size<=b):=fun b off e hne=>by
  rcases hh7 with ⟨-,h0⟩ | ⟨g',c',e',hr⟩
  · exact absurd h0 hne
  · injection e' with e1
    rw [e] at e1
    injection e1 with e1
    injection e1 with e1
    rw [e1]
    exact hr.lt.1
 have HOP7:=Za (HOP6.out.next L7)
 have HNM7:=Za (HNM6.out.next L7)
 have HTO7:=Za (HTO.out.below L7)
 have HTM7:=Za (HTM6.out.below L7)
 have HTR7:=Za (HTR6.out.below L7)
 have HB7:=Za (Zd HB6.out L7)
 have h67:=L7.size
 have hnear:=ZeZ ms m.2 most
 obtain⟨hs,hhs⟩:∃hs,Z1 ms m.2 most=hs:=⟨_,rfl⟩
 rw [hhs] at hhv hnear HHB ⊢
 obtain⟨ids,hids⟩:∃ids,ZbS ms m.2 most=ids:=⟨_,rfl⟩
 have HIDL:Hid (ids.length=hs.length):=by show _=_;rw [<-hids,<-hhs];simp [ZbS]
 have HIDT:Hid (∀t,t<hs.length->nth ids t=(Zr hs t).1):=fun t ht=>by
  rw [<-hids];unfold ZbS;rw [hhs];simp [nth,Zr,List.getD,ht]
 have HNOD:Hid (ids.Nodup):=by show ids.Nodup;rw [<-hids];exact Zex (ZJ HWB.out) _ _
 have HFI:Hid (∀y∈ids,0<=Zv ms y):=by show ∀y∈ids,_;rw [<-hids];exact Zb4 (ZJ HWB.out)
 have HIDS:=Za hids
 have HHV:=Za hhv
 obtain⟨O,hO⟩:∃O,w5.heap.size=O:=⟨_,rfl⟩
 rw [hO] at HTO7 HVlt hgl5 h45 hO6 ⊢
 have hOw:w4.heap.size<=O:=h45
 clear hids hhs hh7 L7 HOP6 HNM6 HTO HTM6 HTR6 HB6 k6 t0 t1 hhv HNE hO
 go_wp2_with fail
 go_loopw [50] (fun iv wr=>∃(t:Nat) (V':Nat->Value),t<=hs.length/\iv=.int .i64 t/\NM w4.heap.size wr gl (ms.length+1) V' (lkX ms ls ids m.1 t) hi/\Zbr gl (ms.length+1) V V' w7 wr) (fun iv _=>hs.length-(intOf iv).toNat)
 case atStart=>exact⟨0,V,Nat.zero_le _,rfl,HNM7.out.congr (fun i hi'=>Zkp HLLN.out ids m.1 hi'),Zbr.refl _ _ _ _⟩
 case round=>
  obtain⟨t,V',ht,rfl,hnm,hk⟩:=hrel
  have HNMr:=Za hnm
  have HKr:=Za hk
  have hop:=HOP7.out.chg hk hggl hgllo (fun i hi' q hq=>(HVlt.out i hi' q hq).1) (by omega)
  have hto:=Zdc HTO7.out hk (by omega) (fun i hi' e=>by have:=HVlt.out i hi' _ e;omega)
  have htm:=Zdc HTM7.out hk (by omega) (fun i hi' e=>by have:=HVlt.out i hi' _ e;omega)
  have htr:=Zdc HTR7.out hk (by omega) (fun i hi' e=>by have:=HVlt.out i hi' _ e;omega)
  have hszr:=hk.size
  clear hnm hk
  by_cases htl:t<hs.length
  · obtain⟨hb,ho,rfl,hbl,hsg⟩:∃b off,ah=some ⟨b,off,none⟩/\b<w7.heap.size/\Zdh w7 b off hs:=by
     rcases HHV.out with h | h
     · rw [h] at htl;simp at htl
     · exact h
    have hb6:=HHB.out hb ho rfl (fun e=>by rw [e] at htl;simp at htl)
    have eb:=HKr.out.block hb hbl (by omega) (fun i hi' e=>by have:=HVlt.out i hi' _ e;omega)
    obtain⟨j,hj,hij,hxj,hpw,hnm1,hl1,hpo,hno,hl2,hstep⟩:=Zl0 HWB.out HMB.out HNOD.out HFI.out (t:=t) (by rw [HIDL.out];exact htl)
    have c0:=(World.cell?_of_block (a:=⟨hb,ho+t*2,none⟩) eb).trans (hsg t htl).1
    have c1:=(World.cell?_of_block (a:=⟨hb,ho+t*2+1,none⟩) eb).trans (hsg t htl).2
    rw [<-HIDT.out t htl] at c0
    obtain⟨y,hy⟩:∃y,nth ids t=y:=⟨_,rfl⟩
    obtain⟨d,hd⟩:∃d,(Zr hs t).2=d:=⟨_,rfl⟩
    rw [hy] at c0 hij hno hstep
    rw [hd] at c1
    obtain⟨V1,hV1⟩:∃V1,wr.alloc (.cells #[.int .i64 y,.int .i64 d] 66)=V1:=⟨_,rfl⟩
    have LZ:Below wr.heap.size wr V1:=by rw [<-hV1];exact (Below.refl _ _).alloc (Nat.le_refl _) _
    have tz:Two V1 wr.heap.size (.int .i64 y) (.int .i64 d) 66:=by rw [<-hV1];exact Two.new wr _ _ _
    have hto1:=hto.below LZ
    have htm1:=htm.below LZ
    have hop1:=hop.next LZ
    have hnm1':=HNMr.out.next LZ
    have o0:=hto1.c0
    have o1:=hto1.c1
    have m0:=htm1.c0
    have z0:=tz.c0
    have hfd:=Zkq HMB.out hj
    rw [<-hij] at hfd
    have hmv:Zq V1 (some ⟨g,0,none⟩) (ms++[m]):=by have:=(hop1.own (by simp [maxLen];omega)).view;rw [ZbA] at this;exact this
    have hlk1:=ZnH w4.heap.size gl (ms.length+1) (ms.length+1) (ms.length+1) hi (some ⟨g,0,none⟩) (ms++[m]) V' (lkX ms ls ids m.1 t) y m.1 V1 hmv HMB.out hfd.1 hnm1' (by rw [hfd.2];omega) (by rw [hfd.2,hxj];exact hpw) (by rw [hfd.2,hxj];exact hnm1) (by rw [hfd.2,hxj];omega)
    rw [hfd.2,hxj,show (ms++[m]).length=ms.length+1 by simp] at hlk1
    have HLK1:=Za hlk1
    have HV'lt:Hid (∀i,i<ms.length+1->∀q,(V' i).ownBlock=some q->hi<=q/\q<wr.heap.size):=fun i hi' q hq=>Zaq (HNMr.out.own i hi') hq
    have HV'n:Hid (∀b,b<w7.heap.size->(∀i,i<ms.length+1->(V i).ownBlock≠some b)->∀i,i<ms.length+1->(V' i).ownBlock≠some b):=fun b hb' hv i hi' e=>by
     rcases HKr.out.fresh i hi' b e with ⟨k,hk,e2⟩ | e2
     · exact hv k hk e2
     · omega
    have HTO1:=Za hto1
    have HTM1:=Za htm1
    have HOP1:=Za hop1
    have HTZ:=Za tz
    have HK1:=Za (HKr.out.below LZ)
    have HXJ:=Za (And.intro hxj hij)
    have HPO:=Za (And.intro hpo hno)
    have HSTP:=Za hstep
    have HYY:=Za hy
    have ht0:(0:Int)<=(t:Int):=Int.natCast_nonneg _
    have ht1:(t:Int)<(hs.length:Int):=by omega
    clear hop hto htm htr hto1 htm1 hop1 hnm1' tz hmv hlk1 hsg eb hfd hxj hpw hnm1 hl1 hpo hno hstep hy hd hij
    go_wp2_with fail
    refine HLK1.out.mono ?_
    rintro e w8 ⟨rfl,V8,hnm8,hk8⟩
    have hto8:=Zdc HTO1.out hk8 (by omega) (HV'n.out O (by omega) (fun i hi' e=>by have:=HVlt.out i hi' _ e;omega))
    have htm8:=Zdc HTM1.out hk8 (by omega) (HV'n.out _ (by omega) (fun i hi' e=>by have:=HVlt.out i hi' _ e;omega))
    have htz8:=Zdc HTZ.out hk8 (by have:=HNMr.out.blk.lt;omega) (fun i hi' e=>by have:=HV'lt.out i hi' _ e;omega)
    have hop8:=HOP1.out.chg hk8 hggl hgllo (fun i hi' q hq=>(HV'lt.out i hi' q hq).1) (by omega)
    have o0:=hto8.c0
    have o1:=hto8.c1
    have m0:=htm8.c0
    have z0:=htz8.c0
    have hmv8:Zq w8 (some ⟨g,0,none⟩) (ms++[m]):=by have:=(hop8.own (by simp [maxLen];omega)).view;rw [ZbA] at this;exact this
    have hla:=Zkr HMB.out
    have hxn:Zen (lkX ms ls ids m.1 t) j (Zaw (cn ls j) m.1) ms.length=ZcI (ids.take t):=by unfold Zen lkX;rw [if_neg (by omega),if_neg (by omega)]
    have hlk2:=ZnH w4.heap.size gl (ms.length+1) (ms.length+1) (ms.length+1) hi (some ⟨g,0,none⟩) (ms++[m]) V8 (Zen (lkX ms ls ids m.1 t) j (Zaw (cn ls j) m.1)) m.1 y w8 hmv8 HMB.out hla.1 hnm8 (by rw [hla.2];omega) (by rw [hla.2,hxn];exact HPO.out.1) (by rw [hla.2,hxn];exact HPO.out.2) (by rw [hla.2,hxn];omega)
    rw [hla.2,hxn,show (ms++[m]).length=ms.length+1 by simp] at hlk2
    have HLK2:=Za hlk2
    have HK8:=Za (HK1.out.trans hk8)
    clear hto8 htm8 htz8 hop8 hmv8 hla hxn hlk2 hk8 hnm8 HLK1 HTO1 HTM1 HOP1 HTZ HK1 hV1
    go_wp2_with fail
    refine HLK2.out.mono ?_
    rintro e w9 ⟨rfl,V9,hnm9,hk9⟩
    have HN9:=Za (hnm9.congr (Y:=lkX ms ls ids m.1 (t+1)) (fun i hi'=>by
     rcases HSTP.out i with h | h
     · exact h
     · omega))
    have HK9:=Za (HK8.out.trans hk9)
    clear hnm9 hk9 HLK2 HK8 o0 o1 m0 z0
    go_wp2_with fail
    go_roundw
    case rel=>exact⟨t+1,V9,by omega,by go_num,HN9.out,HK9.out⟩
    case measure=>simp [intOf];omega
  · obtain rfl:t=hs.length:=by omega
    have hti:¬((hs.length:Int)<(hs.length:Int)):=by omega
    have o0:=hto.c0
    have o1:=hto.c1
    have r0:=htr.c0
    have r1:=htr.c1
    have rf0:=htr.frozen 0
    have rf1:=htr.frozen 1
    have t3:=(htr.set0 (.slice (some ⟨g,0,none⟩) (ms.length+1) (ms.length+1))).set1 (.slice (some ⟨gl,0,none⟩) (ms.length+1) (ms.length+1))
    have q0:=t3.c0
    have q1:=t3.c1
    have HNF:=Za (HNMr.out.congr (Y:=cn (Zcx ms ls ids m.1)) (fun i hi'=>by rw [<-HIDL.out];exact Zm8 ms ls ids m.1 hi'))
    have HBr:Hid (Below w.heap.size w wr):=by
     refine⟨HKr.out.os.trans HB7.out.os,HKr.out.tape.trans HB7.out.tape,HKr.out.output.trans HB7.out.output,Nat.le_trans HB7.out.size hszr,fun b hb=>(HKr.out.block b (by have:=HB7.out.size;omega) (by omega) (fun i hi' e=>by have:=HVlt.out i hi' _ e;omega)).trans (HB7.out.block b hb)⟩
    have HE:Hid (Zed w.heap.size ((wr.setCell ⟨w.heap.size+1+1,0,none⟩ (.slice (some ⟨g,0,none⟩) (ms.length+1) (ms.length+1))).setCell ⟨w.heap.size+1+1,1,none⟩ (.slice (some ⟨gl,0,none⟩) (ms.length+1) (ms.length+1))) g gl (ms++[m]) (cn (Zcx ms ls ids m.1)) (ms.length+1)/\Below w.heap.size w ((wr.setCell ⟨w.heap.size+1+1,0,none⟩ (.slice (some ⟨g,0,none⟩) (ms.length+1) (ms.length+1))).setCell ⟨w.heap.size+1+1,1,none⟩ (.slice (some ⟨gl,0,none⟩) (ms.length+1) (ms.length+1)))):=
     ⟨⟨G,cc,V',lo,hi,(((hop.far (by omega) (Or.inl (by omega)) _ _).far (by omega) (Or.inl (by omega)) _ _).low (by omega)),(((HNF.out.far (by omega) (by omega) _ _).far (by omega) (by omega) _ _).low (by omega)),hggl,hgllo⟩,((HBr.out.setCell (by show w.heap.size<=w.heap.size+1+1;omega) _).setCell (by show w.heap.size<=w.heap.size+1+1;omega) _)⟩
    clear hop hto htm htr t3 HNF
    go_wp2_with fail
    refine bodyPost_ret (v:=.tuple #[.agg #[.slice (some ⟨g,0,none⟩) (ms.length+1) (ms.length+1),.slice (some ⟨gl,0,none⟩) (ms.length+1) (ms.length+1)],.bool true]) (by simp [results,Tryz.results104,go_sem,q0,q1]) rfl ?_
    exact⟨_,by rw [HLB.out],Or.inr ⟨HLB.out,g,gl,rfl,by rw [HIDS.out];exact HE.out.1⟩,HE.out.2⟩
end Go.Proofs.YtaaagmgglolibaaGreat
namespace Go.Proofs.YtaaagmgglolibaaGreat
open Go Go.RowKit
def mkX(k0:Int)(X:Nat->List Int)(i:Nat):List Int:=ZaU (fun t=>k0+(tot (fun j=>(X j).length) i:Nat)+t) (X i).length
theorem Zm9(k0:Int)(X:Nat->List Int)(i:Nat):(mkX k0 X i).length=(X i).length:=by unfold mkX;rw [ZE]
theorem NM.over{base:Nat}{w w':World}{g n:Nat}{V:Nat->Value}{X:Nat->List Int}{lo:Nat}(h:NM base w g n V X lo){m:Nat}(hm:m<n){xs:List Int}(ho:w'.ownsRow lo 2 1 (V m) xs.length (xs.map (Value.int .i64)))
 (hg:w.grownBy w' (V m).ownBlock):NM base w' g n V (Zen X m xs) lo:=by
 have hgl:=h.blk.lt
 have hout:=h.out
 have hVm:∀q,(V m).ownBlock=some q->lo<=q/\q<w.heap.size:=fun q e=>Zaq (h.own m hm) e
 refine⟨h.blk.same (hg.block g hgl (fun e=>by have:=hVm g e.symm;omega)),fun i hi=>?_,h.apart,h.ge,hout,Nat.le_trans h.top hg.size⟩
 unfold Zen
 by_cases e:i=m
 · rw [if_pos e,e];exact ho
 · rw [if_neg e]
   refine ZbB (h.own i hi) (fun q eq=>?_)
   have hq:=Zaq (h.own i hi) eq
   refine hg.block q hq.2 (fun e'=>?_)
   rcases h.apart i m hi hm e with h1 | h1
   · rw [h1] at eq;cases eq
   · exact h1 (eq.trans e')
theorem Zks{w:World}{b:Nat}{v:Value}{xs:List Int}(h:w.ownsRow b 2 1 v xs.length (xs.map (Value.int .i64))):IOut b w v xs:=by
 obtain⟨h1,⟨rfl,h2⟩ | ⟨g,cap,cur,rfl,h3⟩⟩:=h
 · exact Or.inl ⟨rfl,List.length_eq_zero_iff.1 h2⟩
 · exact Or.inr ⟨g,cap,rfl,⟨h1,Or.inr ⟨g,cap,cur,rfl,h3⟩⟩⟩
theorem Zkt{w:World}{b:Nat}{v:Value}{xs:List Int}(h:IOut b w v xs):w.ownsRow b 2 1 v xs.length (xs.map (Value.int .i64)):=by
 rcases h with ⟨rfl,rfl⟩ | ⟨g,c,rfl,hr⟩
 · exact⟨rfl,Or.inl ⟨rfl,rfl⟩⟩
 · exact hr
theorem Zoo(base lo gl n cap:Nat)(V:Nat->Value)(X:Nat->List Int)(k0:Int)(w:World)(h:NM base w gl n V X lo)(hn:n<=61)(hx:∀i,i<n->(X i).length<=1000)(h0:1<=k0)(h1:k0<=1000000):
 Calls Tryz.prog 231 #[.slice (some ⟨gl,0,none⟩) n cap,.int .i64 k0] w fun e w'=>e=.returned (.int .i64 (k0+(tot (fun j=>(X j).length) n:Nat)))/\NM base w' gl n V (mkX k0 X) lo/\Zbr gl n V V w w':=by
 have HX:=Za hx
 have HNM:=Za h
 have HTB:Hid (∀k,k<=n->tot (fun j=>(X j).length) k<=1000*k):=fun k=>by
  induction k with
  | zero=>intro _;simp [tot]
  | succ k ih=>intro hk;have:=ih (by omega);have:=hx k (by omega);simp only [tot];omega
 clear h hx
 go_enter Tryz.func231,Tryz.ntmps231
 go_wp2
 go_loopw [1,5] (fun kk i wr=>∃k:Nat,k<=n/\i=.int .i64 k/\kk=.int .i64 (k0+(tot (fun j=>(X j).length) k:Nat))/\NM base wr gl n V (fun i=>if i<k then mkX k0 X i else X i) lo/\Zbr gl n V V w wr) (fun _ i _=>n-(intOf i).toNat)
 case atStart=>exact⟨0,Nat.zero_le _,rfl,by simp [tot],HNM.out.congr (fun i _=>by rw [if_neg (by omega)]),Zbr.refl _ _ _ _⟩
 case round=>
  obtain⟨k,hk,rfl,rfl,hnm,hch⟩:=hrel
  have htb:=HTB.out k hk
  obtain⟨T,hT⟩:∃T:Nat,tot (fun j=>(X j).length) k=T:=⟨_,rfl⟩
  rw [hT] at htb ⊢
  have HTT:=Za hT
  clear hT
  by_cases hlt:k<n
  · have hxk:=HX.out k hlt
    have hown:=hnm.own k hlt
    rw [if_neg (by omega)] at hown
    obtain⟨a,c,ev,-⟩:=Zcb hown
    have cc:=hnm.blk.cell hlt
    rw [ev] at cc
    have ho:=Zks hown
    rw [ev] at ho
    have HM:=Za (markO lo c a (k0+T) (X k) wr ho (by omega) (by omega) (by omega))
    have HN:=Za hnm
    have HC:=Za hch
    have HEV:=Za ev
    have hi0:(0:Int)<=(k:Int):=Int.natCast_nonneg _
    have hi1:(k:Int)<(n:Int):=by omega
    clear hnm hch hown ho ev
    go_wp2_with fail
    refine HM.out.mono ?_
    rintro e w1 ⟨rfl,hio,hchv,-⟩
    have hio2:w1.ownsRow lo 2 1 (V k) (mkX k0 X k).length ((mkX k0 X k).map (Value.int .i64)):=by
     have h2:=Zkt hio
     rw [ZE,<-HEV.out] at h2
     have e2:mkX k0 X k=ZaU (fun i=>k0+T+i) (X k).length:=by unfold mkX;rw [HTT.out]
     rw [e2,ZE]
     exact h2
    have hg1:wr.grownBy w1 (V k).ownBlock:=⟨hchv.1,hchv.2.1,hchv.2.2.1,hchv.2.2.2.1,fun b hb hne=>hchv.2.2.2.2 b hb (fun p n' c' e=>by
     intro eb
     apply hne
     have h3:=(HN.out.own k hlt)
     rw [HEV.out]
     injection e with e1 e2 e3
     rcases h3 with ⟨-,⟨e4,-⟩ | ⟨g4,c4,cur4,e4,-⟩⟩
     · rw [HEV.out] at e4
       injection e4 with e5
       rw [e5] at e1;cases e1
     · rw [HEV.out] at e4
       injection e4 with e5
       rw [e1] at e5
       injection e5 with e5
       rw [eb,e1,e5]
       rfl)⟩
    have HN2:=Za ((HN.out.over hlt hio2 hg1).congr (Y:=fun i=>if i<k+1 then mkX k0 X i else X i) (fun i hi'=>by
     simp only [Zen]
     by_cases e:i=k
     · rw [if_pos e,if_pos (by omega),e]
     · rw [if_neg e]
       by_cases e2:i<k
       · rw [if_pos e2,if_pos (by omega)]
       · rw [if_neg e2,if_neg (by omega)]))
    have HC2:=Za (HC.out.trans (⟨hg1.os,hg1.tape,hg1.output,hg1.size,fun b hb _ h2=>hg1.block b hb (fun e=>h2 k hlt e.symm),fun i hi' q hq=>Or.inl ⟨i,hi',hq⟩⟩:Zbr gl n V V wr w1))
    have HTS:Hid (tot (fun j=>(X j).length) (k+1)=T+(X k).length):=by show tot (fun j=>(X j).length) k+(X k).length=_;rw [HTT.out]
    clear hio hchv hio2 hg1 HM HN HC
    go_wp2_with fail
    go_roundw
    case rel=>exact⟨k+1,by omega,by go_num,by rw [HTS.out];congr 1;omega,HN2.out,HC2.out⟩
    case measure=>simp [intOf];omega
  · obtain rfl:k=n:=by omega
    have HF:=Za (And.intro (hnm.congr (Y:=mkX k0 X) (fun i hi'=>by rw [if_pos hi'])) hch)
    clear hnm hch
    go_wp2
    go_ret
    exact⟨ZK (by rw [HTT.out]),HF.out.1,HF.out.2⟩
theorem Zop(gl n cap:Nat)(X:Nat->List Int)(k0:Int)(w:World)(h:∀i,i<n->∃a c,w.cell? ⟨gl,i,none⟩=some (.slice a (X i).length c)/\Zs w a (mkX k0 X i))(hn:n<=61)(hx:∀i,i<n->(X i).length<=1000)(h0:1<=k0)(h1:k0<=1000000):
 Calls Tryz.prog 232 #[.slice (some ⟨gl,0,none⟩) n cap,.int .i64 k0] w fun e w'=>e=.returned (.int .i64 (k0+(tot (fun j=>(X j).length) n:Nat)))/\w'=w:=by
 have HX:=Za hx
 have HH:=Za h
 have HTB:Hid (∀k,k<=n->tot (fun j=>(X j).length) k<=1000*k):=fun k=>by
  induction k with
  | zero=>intro _;simp [tot]
  | succ k ih=>intro hk;have:=ih (by omega);have:=hx k (by omega);simp only [tot];omega
 clear h hx
 go_enter Tryz.func232,Tryz.ntmps232
 go_wp2
 go_loopw [1,5] (fun kk i wr=>∃k:Nat,k<=n/\i=.int .i64 k/\kk=.int .i64 (k0+(tot (fun j=>(X j).length) k:Nat))/\wr=w) (fun _ i _=>n-(intOf i).toNat)
 case atStart=>exact⟨0,Nat.zero_le _,rfl,by simp [tot],rfl⟩
 case round=>
  obtain⟨k,hk,rfl,rfl,hwr⟩:=hrel
  subst hwr
  have htb:=HTB.out k hk
  obtain⟨T,hT⟩:∃T:Nat,tot (fun j=>(X j).length) k=T:=⟨_,rfl⟩
  rw [hT] at htb ⊢
  have HTT:=Za hT
  clear hT
  by_cases hlt:k<n
  · have hxk:=HX.out k hlt
    obtain⟨a,c,cc,hv⟩:=HH.out k hlt
    unfold mkX at hv
    rw [HTT.out] at hv
    have HM:=Za (ZnB a c (X k).length (k0+T) wr hv (by omega) (by omega) (by omega))
    have HTS:Hid (tot (fun j=>(X j).length) (k+1)=T+(X k).length):=by show tot (fun j=>(X j).length) k+(X k).length=_;rw [HTT.out]
    have hi0:(0:Int)<=(k:Int):=Int.natCast_nonneg _
    have hi1:(k:Int)<(n:Int):=by omega
    clear hv
    go_wp2_with fail
    refine HM.out.mono ?_
    rintro e w1 ⟨rfl,hw1⟩
    subst hw1
    go_wp2_with fail
    go_roundw
    case rel=>exact⟨k+1,by omega,by go_num,by rw [HTS.out];congr 1;omega,by first | trivial | rfl⟩
    case measure=>simp [intOf];omega
  · obtain rfl:k=n:=by omega
    go_wp2
    go_ret
    exact⟨ZK (by rw [HTT.out]),rfl⟩
theorem NM.same{base:Nat}{w w':World}{g n:Nat}{V:Nat->Value}{X:Nat->List Int}{lo:Nat}(h:NM base w g n V X lo)(hs:w.heap.size<=w'.heap.size)(e0:w'.heap[g]? =w.heap[g]?)(e:∀i,i<n->∀q,(V i).ownBlock=some q->w'.heap[q]? =w.heap[q]?):NM base w' g n V X lo:=
 ⟨h.blk.same e0,fun i hi=>ZbB (h.own i hi) (fun q eq=>e i hi q eq),h.apart,h.ge,h.out,Nat.le_trans h.top hs⟩
theorem ZeB{base:Nat}{w w':World}{g c:Nat}{xs:List Int}(h:ZF base w g c xs)(e:w'.heap[g]? =w.heap[g]?):ZF base w' g c xs:=by
 obtain⟨h1,h2 | ⟨g',c',cur,e1,h3,h4,h5⟩⟩:=h
 · exact⟨h1,Or.inl h2⟩
 · refine⟨h1,Or.inr ⟨g',c',cur,e1,h3,?_,h5⟩⟩
   injection e1 with e1 e2 e3
   injection e1 with e1
   injection e1 with e1
   rw [<-e1,e,e1]
   exact h4
theorem ZbP.same15{base:Nat}{w w':World}{g c:Nat}{ds:List Dm}(h:ZbP base w g c ds)(e0:w'.heap[g]? =w.heap[g]?)(e:∀i,i<ds.length->w'.heap[(Zk ds i).2.1]? =w.heap[(Zk ds i).2.1]?):ZbP base w' g c ds:=by
 refine⟨?_,fun i hi=>ZeB (h.rows i hi) (e i hi),h.off,h.apart⟩
 obtain⟨h1,h2 | ⟨g',c',cur,e1,h3,h4,h5⟩⟩:=h.row
 · exact⟨h1,Or.inl h2⟩
 · refine⟨h1,Or.inr ⟨g',c',cur,e1,h3,?_,h5⟩⟩
   injection e1 with e1 e2 e3
   injection e1 with e1
   injection e1 with e1
   rw [<-e1,e0,e1]
   exact h4
def FtM(g:Nat)(ds:List Dm)(b:Nat):Prop:=b=g\/∃i,i<ds.length/\b=(Zk ds i).2.1
theorem ZcB{base:Nat}{w w':World}{g c:Nat}{ds:List Dm}(h:ZbP base w g c ds)(k:Sta (FtM g ds) w w'):ZbP base w' g c ds:=
 h.same15 (k.2 g (Or.inl rfl)) (fun i hi=>k.2 _ (Or.inr ⟨i,hi,rfl⟩))
theorem Zb7{base:Nat}{w:World}{g c:Nat}{ds:List Dm}(h:ZbP base w g c ds)(b:Nat)(hb:FtM g ds b):base<=b/\b<w.heap.size:=by
 rcases hb with rfl | ⟨i,hi,rfl⟩
 · exact h.lt
 · exact (h.rows i hi).lt
theorem ZdX{base:Nat}{w:World}{g c:Nat}{ds:List Dm}(h:ZbP base w g c ds)(hn:ds.length<=60)(hat:∀x∈Zj ds,x.2.length<=4):
 Ow 170 171 (FtM g ds) w (.slice (some ⟨g,0,none⟩) ds.length c) (Zah (Zj ds)):=by
 refine⟨fun b hb=>(Zb7 h b hb).2,fun w' hs k0 h0 h1=>?_⟩
 refine (ZnZ base g c ds k0 w' (ZcB h hs) hn hat h0 (by omega)).mono ?_
 rintro e w2 ⟨rfl,⟨es,hes,hel,hem,heb⟩,hch⟩
 refine⟨rfl,⟨hch.os,hch.tape,hch.output,hch.size,fun b hb hS=>hch.block b hb (fun e=>hS (Or.inl e)) (fun i hi e=>hS (Or.inr ⟨i,hi,e⟩))⟩,fun W hW=>?_⟩
 have hv:=(hes.same15 (w':=W) (hW.2 g (Or.inl rfl)) (fun i hi=>hW.2 _ (Or.inr ⟨i,by omega,heb i (by omega)⟩))).view
 rw [hem] at hv
 have hh:=ZnY (some ⟨g,0,none⟩) c (Zj ds) k0 W hv (by rw [Zp];exact hn) hat h0 (by omega)
 rw [Zp] at hh
 exact hh.mono (fun e W' ⟨e1,e2⟩=>⟨e1,by rw [e2];exact Below.refl _ _⟩)
theorem Zna(cap:Nat)(k:Int)(w:World):Calls Tryz.prog 170 #[.slice none 0 cap,.int .i64 k] w fun e w'=>e=.returned (.int .i64 k)/\w'=w:=by
 go_enter Tryz.func170,Tryz.ntmps170
 go_wp2
 refine wp_loop_rounds 1 ?_
 rw [rounds_succ]
 go_wp2
 go_ret
 exact⟨rfl,rfl⟩
theorem Znb(cap:Nat)(k:Int)(w:World):Calls Tryz.prog 171 #[.slice none 0 cap,.int .i64 k] w fun e w'=>e=.returned (.int .i64 k)/\w'=w:=by
 go_enter Tryz.func171,Tryz.ntmps171
 go_wp2
 refine wp_loop_rounds 1 ?_
 rw [rounds_succ]
 go_wp2
 go_ret
 exact⟨rfl,rfl⟩
theorem Zgc(cap:Nat)(w:World):Ow 170 171 (fun _=>False) w (.slice none 0 cap) 0:=
 ⟨fun _ h=>h.elim,fun w' _ k0 _ _=>(Zna cap k0 w').mono (by
  rintro e w2 ⟨rfl,rfl⟩
  exact⟨by simp,Cgd.refl _ _,fun W _=>(Znb cap k0 W).mono (by rintro e W' ⟨rfl,rfl⟩;exact⟨by simp,Below.refl _ _⟩)⟩)⟩
def FtL(gl n:Nat)(V:Nat->Value)(b:Nat):Prop:=b=gl\/∃i,i<n/\(V i).ownBlock=some b
theorem Zl1{base:Nat}{w w':World}{g n:Nat}{V:Nat->Value}{X:Nat->List Int}{lo:Nat}(h:NM base w g n V X lo)(k:Sta (FtL g n V) w w'):NM base w' g n V X lo:=
 h.same k.1 (k.2 g (Or.inl rfl)) (fun i hi q e=>k.2 q (Or.inr ⟨i,hi,e⟩))
theorem Zl2{base:Nat}{w:World}{g n:Nat}{V:Nat->Value}{X:Nat->List Int}{lo:Nat}(h:NM base w g n V X lo)(b:Nat)(hb:FtL g n V b):base<=b/\b<w.heap.size:=by
 have h1:=h.ge
 have h2:=h.out
 rcases hb with rfl | ⟨i,hi,e⟩
 · exact⟨h.ge,h.blk.lt⟩
 · have:=Zaq (h.own i hi) e
   omega
theorem Zl3{base:Nat}{w:World}{g n:Nat}{V:Nat->Value}{X:Nat->List Int}{lo:Nat}(cap:Nat)(h:NM base w g n V X lo)(hn:n<=61)(hx:∀i,i<n->(X i).length<=1000):
 Ow 231 232 (FtL g n V) w (.slice (some ⟨g,0,none⟩) n cap) (tot (fun j=>(X j).length) n):=by
 refine⟨fun b hb=>(Zl2 h b hb).2,fun w' hs k0 h0 h1=>?_⟩
 refine (Zoo base lo g n cap V X k0 w' (Zl1 h hs) hn hx h0 (by omega)).mono ?_
 rintro e w2 ⟨rfl,hm,hch⟩
 refine⟨rfl,⟨hch.os,hch.tape,hch.output,hch.size,fun b hb hS=>hch.block b hb (fun e=>hS (Or.inl e)) (fun i hi e=>hS (Or.inr ⟨i,hi,e⟩))⟩,fun W hW=>?_⟩
 have hm':=Zl1 hm hW
 exact (Zop g n cap X k0 W (fun i hi=>by
  obtain⟨a,c,e,hv⟩:=Zcb (hm'.own i hi)
  have hc:=hm'.blk.cell hi
  rw [e,Zm9] at hc
  exact⟨a,c,hc,hv⟩) hn hx h0 (by omega)).mono (fun e W' ⟨e1,e2⟩=>⟨e1,by rw [e2];exact Below.refl _ _⟩)
theorem Znc(cap:Nat)(k:Int)(w:World):Calls Tryz.prog 231 #[.slice none 0 cap,.int .i64 k] w fun e w'=>e=.returned (.int .i64 k)/\w'=w:=by
 go_enter Tryz.func231,Tryz.ntmps231
 go_wp2
 refine wp_loop_rounds 1 ?_
 rw [rounds_succ]
 go_wp2
 go_ret
 exact⟨rfl,rfl⟩
theorem Znd(cap:Nat)(k:Int)(w:World):Calls Tryz.prog 232 #[.slice none 0 cap,.int .i64 k] w fun e w'=>e=.returned (.int .i64 k)/\w'=w:=by
 go_enter Tryz.func232,Tryz.ntmps232
 go_wp2
 refine wp_loop_rounds 1 ?_
 rw [rounds_succ]
 go_wp2
 go_ret
 exact⟨rfl,rfl⟩
theorem Zku(cap:Nat)(w:World):Ow 231 232 (fun _=>False) w (.slice none 0 cap) 0:=
 ⟨fun _ h=>h.elim,fun w' _ k0 _ _=>(Znc cap k0 w').mono (by
  rintro e w2 ⟨rfl,rfl⟩
  exact⟨by simp,Cgd.refl _ _,fun W _=>(Znd cap k0 W).mono (by rintro e W' ⟨rfl,rfl⟩;exact⟨by simp,Below.refl _ _⟩)⟩)⟩
def ZeF(ls:List (List Int)):Nat:=tot (fun j=>(cn ls j).length) ls.length
structure OwW(o:Bool)(S:Nat->Prop)(w:World)(vm vl:Value)(ms:List Mk)(ls:List (List Int)):Prop where
 bnd:∀b,S b->b<w.heap.size
 rows:o=true->∃(F G:Nat->Prop),Ow 170 171 F w vm (Zah ms)/\Ow 231 232 G w vl (ZeF ls)/\(∀b,F b->S b)/\(∀b,G b->S b)/\(∀b,F b->¬G b)/\Zah ms+ZeF ls<=100000
 view:∃am cm al cl,vm=.slice am ms.length cm/\vl=.slice al ls.length cl/\ms.length<=cm/\ls.length<=cl/\∀w',Sta S w w'->Zq w' am ms/\Z8 w' al ls
theorem OwW.sm{o:Bool}{S:Nat->Prop}{w w':World}{vm vl:Value}{ms:List Mk}{ls:List (List Int)}(h:OwW o S w vm vl ms ls)(k:Sta S w w'):OwW o S w' vm vl ms ls:=by
 obtain⟨am,cm,al,cl,e1,e2,c1,c2,hv⟩:=h.view
 exact⟨fun b hb=>Nat.lt_of_lt_of_le (h.bnd b hb) k.1,fun ho=>by obtain⟨F,G,h1,h2,h3,h4,h5,h6⟩:=h.rows ho;exact⟨F,G,h1.sm (k.mono h3),h2.sm (k.mono h4),h3,h4,h5,h6⟩,⟨am,cm,al,cl,e1,e2,c1,c2,fun w2 k2=>hv w2 (k.trans k2)⟩⟩
theorem OwW.next{o:Bool}{S:Nat->Prop}{w w':World}{vm vl:Value}{ms:List Mk}{ls:List (List Int)}(h:OwW o S w vm vl ms ls)(L:Below w.heap.size w w'):OwW o S w' vm vl ms ls:=h.sm (Sta.below L h.bnd)
theorem OwW.zero(o:Bool)(w:World):OwW o (fun _=>False) w (.slice none 0 0) (.slice none 0 0) [] []:=
 ⟨fun _ h=>h.elim,fun _=>⟨fun _=>False,fun _=>False,Zgc 0 w,Zku 0 w,fun _ h=>h,fun _ h=>h,fun _ h=>h.elim,by decide⟩,⟨none,0,none,0,rfl,rfl,Nat.le_refl _,Nat.le_refl _,fun _ _=>⟨Or.inl rfl,Or.inl rfl⟩⟩⟩
theorem Zed.ow{base:Nat}{w:World}{g gl:Nat}{ms:List Mk}{ls:List (List Int)}(h:Zed base w g gl ms (cn ls) ls.length)(hm:Zn ms=true)(hml:ms.length=ls.length)(hl:ls.length<=61)(hx:∀i,(cn ls i).length<=1000):
 OwW true (Btw base w.heap.size) w (.slice (some ⟨g,0,none⟩) ms.length ms.length) (.slice (some ⟨gl,0,none⟩) ls.length ls.length) ms ls:=by
 obtain⟨G,cc,V,lo,hi,ho,hn,h1,h2⟩:=h
 have h60:=ZA hm
 have hmo:=ho.own (by unfold maxLen;omega)
 have hdl:=Zbb ms G cc
 have hdm:=ZbA ms G cc
 have hat:∀x∈ms,x.2.length<=4:=fun x hx'=>by
  obtain⟨i,hi',rfl⟩:=List.getElem_of_mem hx'
  have:=((ZG _ _).1 (ZM hm hi')).2.2.1
  have h4:=(Zat this).2
  simpa [mat,List.getD,hi'] using h4
 have o1:=ZdX hmo (by omega) (by rw [hdm];exact hat)
 rw [hdl,hdm] at o1
 have o2:=Zl3 ls.length hn hl (fun i _=>hx i)
 have hb1:∀b,FtM g (ZaO ms G cc) b->base<=b/\b<w.heap.size:=fun b hb=>Zb7 hmo b hb
 have hb2:∀b,FtL gl ls.length V b->base<=b/\b<w.heap.size:=fun b hb=>Zl2 hn b hb
 have htm:=Zc5 ms 60 4 h60 hat
 have htl:tot (fun j=>(cn ls j).length) ls.length<=61000:=by
  have:∀k,tot (fun j=>(cn ls j).length) k<=1000*k:=by
   intro k
   induction k with
   | zero=>simp [tot]
   | succ k ih=>have:=hx k;simp only [tot];omega
  have:=this ls.length
  omega
 refine⟨fun b hb=>hb.2,fun _=>⟨_,_,o1,o2,fun b hb=>hb1 b hb,fun b hb=>hb2 b hb,fun b hb hb'=>?_,by unfold ZeF;omega⟩,⟨_,_,_,_,rfl,rfl,Nat.le_refl _,Nat.le_refl _,fun w' hs=>⟨?_,?_⟩⟩⟩
 · have hgt:=ho.out
   have hgo:=hn.out
   rcases hb with rfl | ⟨i,hi',rfl⟩
   · rcases hb' with e | ⟨j,hj,e⟩
     · exact h1 e
     · have:=Zaq (hn.own j hj) e
       have:=ho.out
       have:=ho.within 0 (by omega)
       omega
   · rw [hdl] at hi'
     rw [ZbF hi'] at hb'
     have hw:=ho.within i hi'
     rcases hb' with e | ⟨j,hj,e⟩
     · have e':G i=gl:=e
       omega
     · have:=Zaq (hn.own j hj) e
       have e':hi<=G i:=this.1
       omega
 · have:=(ZcB hmo (hs.mono hb1)).view
   rw [hdm] at this
   exact this
 · have:=(Zl1 hn (hs.mono hb2)).view
   have e:(List.range ls.length).map (cn ls)=ls:=by
    refine List.ext_getElem (by simp) (fun i h1 h2=>?_)
    simp [cn,List.getD,h2]
   rw [e] at this
   exact this
def HdW(S:Nat->Prop)(w:World)(vm vl:Value)(ms:List Mk)(ls:List (List Int))(k:Int):Prop:=
 ∃F G:Nat->Prop,Hd 171 F w vm k (k+Zah ms)/\Hd 232 G w vl (k+Zah ms) (k+Zah ms+ZeF ls)/\(∀b,F b->S b)/\(∀b,G b->S b)
theorem HdW.sm{S:Nat->Prop}{w w':World}{vm vl:Value}{ms:List Mk}{ls:List (List Int)}{k:Int}(h:HdW S w vm vl ms ls k)(e:Sta S w w'):HdW S w' vm vl ms ls k:=by
 obtain⟨F,G,h1,h2,h3,h4⟩:=h
 exact⟨F,G,h1.sm (e.mono h3),h2.sm (e.mono h4),h3,h4⟩
def wsz(x:Wb):Nat:=Zah x.1+ZeF x.2
def FtW(g n:Nat)(S:Nat->Nat->Prop)(b:Nat):Prop:=b=g\/∃i,i<n/\S i b
structure Zeo(o:Bool)(g n:Nat)(S:Nat->Nat->Prop)(w:World)(vm vl:Nat->Value)(T:Nat->Wb):Prop where
 lt:g<w.heap.size
 cells:∀i,i<n->w.cell? ⟨g,i*2,none⟩=some (vm i)/\w.cell? ⟨g,i*2+1,none⟩=some (vl i)
 webs:∀i,i<n->OwW o (S i) w (vm i) (vl i) (T i).1 (T i).2
 off:∀i,i<n->¬S i g
 apart:∀i j,i<n->j<n->i≠j->∀b,S i b->¬S j b
 four:n<=4
theorem Zeo.sm{o:Bool}{g n:Nat}{S:Nat->Nat->Prop}{w w':World}{vm vl:Nat->Value}{T:Nat->Wb}(h:Zeo o g n S w vm vl T)(k:Sta (FtW g n S) w w'):Zeo o g n S w' vm vl T:=
 ⟨Nat.lt_of_lt_of_le h.lt k.1,fun i hi=>⟨(k.cell (Or.inl rfl) _).trans (h.cells i hi).1,(k.cell (Or.inl rfl) _).trans (h.cells i hi).2⟩,fun i hi=>(h.webs i hi).sm (k.mono (fun _ hb=>Or.inr ⟨i,hi,hb⟩)),h.off,h.apart,h.four⟩
theorem Zeo.bnd{o:Bool}{g n:Nat}{S:Nat->Nat->Prop}{w:World}{vm vl:Nat->Value}{T:Nat->Wb}(h:Zeo o g n S w vm vl T)(b:Nat)(hb:FtW g n S b):b<w.heap.size:=by
 rcases hb with rfl | ⟨i,hi,hs⟩
 · exact h.lt
 · exact (h.webs i hi).bnd b hs
theorem Zeo.size{g n:Nat}{S:Nat->Nat->Prop}{w:World}{vm vl:Nat->Value}{T:Nat->Wb}(h:Zeo true g n S w vm vl T)(k:Nat)(hk:k<=n):tot (fun i=>wsz (T i)) k<=100000*k:=by
 induction k with
 | zero=>simp [tot]
 | succ k ih=>
   have h1:=ih (by omega)
   obtain⟨F,G,-,-,-,-,-,h6⟩:=(h.webs k (by omega)).rows rfl
   simp only [tot,wsz] at h1 ⊢
   omega
theorem ZhN(f:Nat->Nat){a b:Nat}(h:a<=b):tot f a<=tot f b:=by
 induction b with
 | zero=>rw [show a=0 by omega];exact Nat.le_refl _
 | succ b ih=>
   rcases Nat.lt_or_ge a (b+1) with e | e
   · exact Nat.le_trans (ih (by omega)) (Nat.le_add_right _ _)
   · rw [show a=b+1 by omega];exact Nat.le_refl _
structure Zkv(g n:Nat)(S:Nat->Nat->Prop)(w wr:World)(vm vl:Nat->Value)(T:Nat->Wb)(k0:Int)(k:Nat):Prop where
 done:∀j,j<k->HdW (S j) wr (vm j) (vl j) (T j).1 (T j).2 (k0+(tot (fun i=>wsz (T i)) j:Nat))
 rest:∀j,k<=j->j<n->OwW true (S j) wr (vm j) (vl j) (T j).1 (T j).2
 chg:Cgd (fun b=>∃i,i<n/\S i b) w wr
theorem Zkv.step{g n:Nat}{S:Nat->Nat->Prop}{w wr w2 w3:World}{vm vl:Nat->Value}{T:Nat->Wb}{k0:Int}{k:Nat}(I:Zkv g n S w wr vm vl T k0 k)(hb:∀i,i<n->∀b,S i b->b<w.heap.size)(hap:∀i j,i<n->j<n->i≠j->∀b,S i b->¬S j b)(hk:k<n){F G:Nat->Prop}
 (hF:∀b,F b->S k b) (hG:∀b,G b->S k b) (hFG:∀b,F b->¬G b) (c1:Cgd F wr w2) (c2:Cgd G w2 w3)
 (d1:Hd 171 F w2 (vm k) (k0+(tot (fun i=>wsz (T i)) k:Nat)) (k0+(tot (fun i=>wsz (T i)) k:Nat)+Zah (T k).1))
 (d2:Hd 232 G w3 (vl k) (k0+(tot (fun i=>wsz (T i)) k:Nat)+Zah (T k).1) (k0+(tot (fun i=>wsz (T i)) k:Nat)+Zah (T k).1+ZeF (T k).2)):
 Zkv g n S w w3 vm vl T k0 (k+1):=by
 have hs0:=I.chg.2.2.2.1
 have hs1:=c1.2.2.2.1
 have cc:Cgd (S k) wr w3:=(c1.mono hF).trans (c2.mono hG)
 have keep:∀j,j<n->j≠k->Sta (S j) wr w3:=fun j hj hne=>cc.sm (fun b hbj=>Nat.lt_of_lt_of_le (hb j hj b hbj) hs0) (fun b hbj=>hap j k hj hk hne b hbj)
 refine⟨fun j hj=>?_,fun j hj hjn=>(I.rest j (by omega) hjn).sm (keep j hjn (by omega)),I.chg.trans (cc.mono (fun b hb=>⟨k,hk,hb⟩))⟩
 rcases Nat.lt_or_ge j k with e | e
 · exact (I.done j e).sm (keep j (by omega) (by omega))
 · obtain rfl:j=k:=by omega
   exact⟨F,G,d1.sm (c2.sm (fun b hbF=>Nat.lt_of_lt_of_le (hb j hk b (hF b hbF)) (Nat.le_trans hs0 hs1)) (fun b hbF=>hFG b hbF)),d2,hF,hG⟩
theorem Zne(g n cap:Nat)(S:Nat->Nat->Prop)(vm vl:Nat->Value)(T:Nat->Wb)(k0:Int)(w:World)(h:Zeo true g n S w vm vl T)(h0:1<=k0)(h1:k0+(tot (fun i=>wsz (T i)) n:Nat)<=1000000):
 Calls Tryz.prog 165 #[.slice (some ⟨g,0,none⟩) n cap,.int .i64 k0] w fun e w'=>e=.returned (.int .i64 (k0+(tot (fun i=>wsz (T i)) n:Nat)))/\Zkv g n S w w' vm vl T k0 n:=by
 have HT:=Za h
 have HB:Hid (∀i,i<n->∀b,S i b->b<w.heap.size):=fun i hi b hb=>(h.webs i hi).bnd b hb
 have HKE:Hid (∀k:Nat,tot (fun j=>wsz (T j)) (k+1)=tot (fun j=>wsz (T j)) k+(Zah (T k).1+ZeF (T k).2)):=fun k=>rfl
 have HLE:Hid (∀k,k<=n->k0+(tot (fun j=>wsz (T j)) k:Nat)<=1000000):=fun k hk=>by have:=ZhN (fun j=>wsz (T j)) hk;omega
 clear h h1
 go_enter Tryz.func165,Tryz.ntmps165
 go_wp2
 go_loopw [1,5] (fun kk i wr=>∃(k:Nat),k<=n/\i=.int .i64 k/\kk=.int .i64 (k0+(tot (fun j=>wsz (T j)) k:Nat))/\Zkv g n S w wr vm vl T k0 k) (fun _ i _=>n-(intOf i).toNat)
 case atStart=>exact⟨0,Nat.zero_le _,rfl,by simp [tot],fun j hj=>absurd hj (by omega),fun j _ hj=>HT.out.webs j hj,Cgd.refl _ _⟩
 case round=>
  obtain⟨k,hk,rfl,rfl,hI⟩:=hrel
  by_cases hlt:k<n
  · have h4:=HT.out.four
    have hle:=HLE.out (k+1) (by omega)
    have hke:=HKE.out k
    obtain⟨F,G,o1,o2,hF,hG,hFG,-⟩:=(hI.rest k (Nat.le_refl _) hlt).rows rfl
    have hgs:wr.heap[g]? =w.heap[g]? :=hI.chg.2.2.2.2 g HT.out.lt (fun ⟨i,hi,hb⟩=>HT.out.off i hi hb)
    have c0r:=(World.cell?_of_block (a:=⟨g,k*2,none⟩) hgs).trans (HT.out.cells k hlt).1
    have c1w:=(HT.out.cells k hlt).2
    have HGS:=Za (And.intro hgs c1w)
    have HM:=Za (o1.act wr (Sta.refl _ _) (k0+(tot (fun j=>wsz (T j)) k:Nat)) (by omega) (by omega))
    have HL:=Za o2
    have HF:=Za (And.intro hF (And.intro hG hFG))
    have HI:=Za hI
    clear hgs c1w o1 o2 hF hG hFG hI
    obtain⟨K,hK⟩:∃K:Int,k0+(tot (fun j=>wsz (T j)) k:Nat)=K:=⟨_,rfl⟩
    have hK1:1<=K:=by omega
    have hK2:K+Zah (T k).1+ZeF (T k).2<=1000000:=by omega
    rw [hK] at HM ⊢
    have HKK:=Za (And.intro hK (And.intro hle hke))
    clear hK hle hke
    obtain⟨nm,hnm⟩:∃nm:Nat,Zah (T k).1=nm:=⟨_,rfl⟩
    obtain⟨nl,hnl⟩:∃nl:Nat,ZeF (T k).2=nl:=⟨_,rfl⟩
    rw [hnm,hnl] at hK2
    rw [hnm] at HM
    rw [hnl] at HL
    have HNN:=Za (And.intro hnm hnl)
    clear hnm hnl
    obtain⟨a,ha⟩:∃a,vm k=a:=⟨_,rfl⟩
    obtain⟨b,hb⟩:∃b,vl k=b:=⟨_,rfl⟩
    rw [ha] at HM c0r
    rw [hb] at HL
    have HAB:=Za (And.intro ha hb)
    clear ha hb
    go_wp2_with fail
    refine HM.out.mono ?_
    rintro e w2 ⟨rfl,c1,d1⟩
    have hg2:w2.heap[g]? =wr.heap[g]? :=c1.2.2.2.2 g (by have:=HI.out.chg.2.2.2.1;have:=HT.out.lt;omega) (fun hb=>HT.out.off k hlt (HF.out.1 g hb))
    have c1r:=(World.cell?_of_block (a:=⟨g,k*2+1,none⟩) (hg2.trans HGS.out.1)).trans HGS.out.2
    rw [HAB.out.2] at c1r
    have hso:Sta G wr w2:=c1.sm (fun b hb=>by have:=HB.out k hlt b (HF.out.2.1 b hb);have:=HI.out.chg.2.2.2.1;omega) (fun b hb hb'=>HF.out.2.2 b hb' hb)
    have HL2:=Za (HL.out.act w2 hso (K+nm) (by omega) (by omega))
    have HC:=Za (And.intro c1 d1)
    clear c1 d1 hg2 hso c0r HM HL
    go_wp2_with fail
    refine HL2.out.mono ?_
    rintro e w3 ⟨rfl,c2,d2⟩
    have HW:Hid (Zkv g n S w w3 vm vl T k0 (k+1)):=by
     obtain⟨e1,e2⟩:=HNN.out
     obtain⟨a1,a2⟩:=HAB.out
     refine HI.out.step HB.out HT.out.apart hlt HF.out.1 HF.out.2.1 HF.out.2.2 HC.out.1 c2 ?_ ?_
     · rw [HKK.out.1,e1,a1];exact HC.out.2
     · rw [HKK.out.1,e1,e2,a2];exact d2
    clear c2 d2 c1r HL2
    go_wp2_with fail
    go_roundw
    case rel=>exact⟨k+1,by omega,by go_num,by rw [HKK.out.2.2,<-HKK.out.1,HNN.out.1,HNN.out.2];congr 1;omega,HW.out⟩
    case measure=>simp [intOf];omega
  · obtain rfl:k=n:=by omega
    have HI:=Za hI
    clear hI
    go_wp2
    go_ret
    exact⟨rfl,HI.out⟩
theorem Znf(g n cap:Nat)(S:Nat->Nat->Prop)(vm vl:Nat->Value)(T:Nat->Wb)(k0:Int)(w:World)(h4:n<=4)(hg:g<w.heap.size)(hc:∀i,i<n->w.cell? ⟨g,i*2,none⟩=some (vm i)/\w.cell? ⟨g,i*2+1,none⟩=some (vl i))
 (hd:∀j,j<n->HdW (S j) w (vm j) (vl j) (T j).1 (T j).2 (k0+(tot (fun i=>wsz (T i)) j:Nat))) (hb:∀i,i<n->∀b,S i b->b<w.heap.size) (h0:1<=k0) (h1:k0+(tot (fun i=>wsz (T i)) n:Nat)<=1000000):
 Calls Tryz.prog 166 #[.slice (some ⟨g,0,none⟩) n cap,.int .i64 k0] w fun e w'=>e=.returned (.int .i64 (k0+(tot (fun i=>wsz (T i)) n:Nat)))/\Below w.heap.size w w':=by
 have HC:=Za hc
 have HD:=Za hd
 have HB:=Za hb
 have HKE:Hid (∀k:Nat,tot (fun j=>wsz (T j)) (k+1)=tot (fun j=>wsz (T j)) k+(Zah (T k).1+ZeF (T k).2)):=fun k=>rfl
 have HLE:Hid (∀k,k<=n->k0+(tot (fun j=>wsz (T j)) k:Nat)<=1000000):=fun k hk=>by have:=ZhN (fun j=>wsz (T j)) hk;omega
 clear hc hd hb h1
 go_enter Tryz.func166,Tryz.ntmps166
 go_wp2
 go_loopw [1,5] (fun kk i wr=>∃(k:Nat),k<=n/\i=.int .i64 k/\kk=.int .i64 (k0+(tot (fun j=>wsz (T j)) k:Nat))/\Below w.heap.size w wr) (fun _ i _=>n-(intOf i).toNat)
 case atStart=>exact⟨0,Nat.zero_le _,rfl,by simp [tot],Below.refl _ _⟩
 case round=>
  obtain⟨k,hk,rfl,rfl,hI⟩:=hrel
  have HI:=Za hI
  by_cases hlt:k<n
  · have hle:=HLE.out (k+1) (by omega)
    have hke:=HKE.out k
    have hst:Sta (S k) w wr:=Sta.below hI (HB.out k hlt)
    obtain⟨F,G,d1,d2,hF,hG⟩:=(HD.out k hlt).sm hst
    have c0r:=(hI.cell (p:=⟨g,k*2,none⟩) hg).trans (HC.out k hlt).1
    have c1w:=(HC.out k hlt).2
    have HM:=Za (d1 wr (Sta.refl _ _))
    have HL:=Za d2
    have HF:=Za (And.intro hF hG)
    have HC1:=Za c1w
    clear hI hst d1 d2 hF hG c1w
    obtain⟨K,hK⟩:∃K:Int,k0+(tot (fun j=>wsz (T j)) k:Nat)=K:=⟨_,rfl⟩
    have hK1:1<=K:=by omega
    rw [hK] at HM HL ⊢
    have hK2:K+Zah (T k).1+ZeF (T k).2<=1000000:=by omega
    have HKK:=Za (And.intro hK (And.intro hle hke))
    clear hK hle hke
    obtain⟨nm,hnm⟩:∃nm:Nat,Zah (T k).1=nm:=⟨_,rfl⟩
    obtain⟨nl,hnl⟩:∃nl:Nat,ZeF (T k).2=nl:=⟨_,rfl⟩
    rw [hnm,hnl] at hK2
    rw [hnm] at HM
    rw [hnm,hnl] at HL
    have HNN:=Za (And.intro hnm hnl)
    clear hnm hnl
    obtain⟨a,ha⟩:∃a,vm k=a:=⟨_,rfl⟩
    obtain⟨b,hb⟩:∃b,vl k=b:=⟨_,rfl⟩
    rw [ha] at HM c0r
    rw [hb] at HL HC1
    clear ha hb
    go_wp2_with fail
    refine HM.out.mono ?_
    rintro e w2 ⟨rfl,L2⟩
    have hL2:=HI.out.trans (L2.mono HI.out.size)
    have c1r:=(hL2.cell (p:=⟨g,k*2+1,none⟩) hg).trans HC1.out
    have hso:Sta G wr w2:=Sta.below L2 (fun b hb=>by have:=HB.out k hlt b (HF.out.2 b hb);have:=HI.out.size;omega)
    have HL2:=Za (HL.out w2 hso)
    have HB2:=Za hL2
    clear L2 hL2 hso c0r HM HL
    go_wp2_with fail
    refine HL2.out.mono ?_
    rintro e w3 ⟨rfl,L3⟩
    have HB3:=Za (HB2.out.trans (L3.mono HB2.out.size))
    clear L3 c1r HL2
    go_wp2_with fail
    go_roundw
    case rel=>exact⟨k+1,by omega,by go_num,by rw [HKK.out.2.2,<-HKK.out.1,HNN.out.1,HNN.out.2];congr 1;omega,HB3.out⟩
    case measure=>simp [intOf];omega
  · obtain rfl:k=n:=by omega
    clear hI
    go_wp2
    go_ret
    exact⟨rfl,HI.out⟩
theorem Zng{g n:Nat}(cap:Nat){S:Nat->Nat->Prop}{w:World}{vm vl:Nat->Value}{T:Nat->Wb}(h:Zeo true g n S w vm vl T):
 Ow 165 166 (FtW g n S) w (.slice (some ⟨g,0,none⟩) n cap) (tot (fun i=>wsz (T i)) n):=by
 refine⟨h.bnd,fun w' hs k0 h0 h1=>?_⟩
 have h':=h.sm hs
 refine (Zne g n cap S vm vl T k0 w' h' h0 h1).mono ?_
 rintro e w2 ⟨rfl,hI⟩
 refine⟨rfl,hI.chg.mono (fun b hb=>Or.inr hb),fun W hW=>?_⟩
 have hgs:w2.heap[g]? =w'.heap[g]? :=hI.chg.2.2.2.2 g h'.lt (fun ⟨i,hi,hb⟩=>h'.off i hi hb)
 have hgW:W.heap[g]? =w'.heap[g]? :=(hW.2 g (Or.inl rfl)).trans hgs
 have hsz:w'.heap.size<=W.heap.size:=Nat.le_trans hI.chg.2.2.2.1 hW.1
 exact Znf g n cap S vm vl T k0 W h'.four (Nat.lt_of_lt_of_le h'.lt hsz) (fun i hi=>⟨(World.cell?_of_block (a:=⟨g,i*2,none⟩) hgW).trans (h'.cells i hi).1,(World.cell?_of_block (a:=⟨g,i*2+1,none⟩) hgW).trans (h'.cells i hi).2⟩)
  (fun j hj=>(hI.done j hj).sm (hW.mono (fun b hb=>Or.inr ⟨j,hj,hb⟩))) (fun i hi b hb=>Nat.lt_of_lt_of_le ((h'.webs i hi).bnd b hb) hsz) h0 h1
theorem Zl4(cap:Nat)(k:Int)(w:World):Calls Tryz.prog 165 #[.slice none 0 cap,.int .i64 k] w fun e w'=>e=.returned (.int .i64 k)/\w'=w:=by
 go_enter Tryz.func165,Tryz.ntmps165
 go_wp2
 refine wp_loop_rounds 1 ?_
 rw [rounds_succ]
 go_wp2
 go_ret
 exact⟨rfl,rfl⟩
theorem Zl5(cap:Nat)(k:Int)(w:World):Calls Tryz.prog 166 #[.slice none 0 cap,.int .i64 k] w fun e w'=>e=.returned (.int .i64 k)/\w'=w:=by
 go_enter Tryz.func166,Tryz.ntmps166
 go_wp2
 refine wp_loop_rounds 1 ?_
 rw [rounds_succ]
 go_wp2
 go_ret
 exact⟨rfl,rfl⟩
theorem Zl6(cap:Nat)(w:World):Ow 165 166 (fun _=>False) w (.slice none 0 cap) 0:=
 ⟨fun _ h=>h.elim,fun w' _ k0 h0 _=>(Zl4 cap k0 w').mono (by
  rintro e w2 ⟨rfl,rfl⟩
  exact⟨by simp,Cgd.refl _ _,fun W _=>(Zl5 cap k0 W).mono (by rintro e W' ⟨rfl,rfl⟩;exact⟨by simp,Below.refl _ _⟩)⟩)⟩
def Za1(vm vl:Nat->Value)(j:Nat):Value:=if j % 2=0 then vm (j / 2) else vl (j / 2)
theorem FB.madeW(w:World)(n:Nat)(t:TypeId):FB (w.alloc (.cells (madeCells #[.slice none 0 0,.slice none 0 0] (n*2)) t)) w.heap.size (n*2) (Za1 (fun _=>.slice none 0 0) (fun _=>.slice none 0 0)) t:=by
 have e:madeCells #[.slice none 0 0,.slice none 0 0] (n*2)=((List.range (n*2)).map (Za1 (fun _=>.slice none 0 0) (fun _=>.slice none 0 0))).toArray:=by
  apply Array.ext
  · simp [size_madeCells]
  · intro i h1 h2
    have h3:i % 2=0\/i % 2=1:=Nat.mod_two_eq_zero_or_one i
    rcases h3 with h3 | h3 <;> simp [madeCells,Za1,h3]
 unfold FB
 rw [e]
 show (w.heap.push _)[w.heap.size]? =_
 simp
structure Zcc(o:Bool)(g n:Nat)(S:Nat->Nat->Prop)(w:World)(vm vl:Nat->Value)(T:Nat->Wb):Prop where
 blk:FB w g (n*2) (Za1 vm vl) 47
 webs:∀i,i<n->OwW o (S i) w (vm i) (vl i) (T i).1 (T i).2
 off:∀i,i<n->¬S i g
 apart:∀i j,i<n->j<n->i≠j->∀b,S i b->¬S j b
 four:n<=4
theorem Zcc.cells{o:Bool}{g n:Nat}{S:Nat->Nat->Prop}{w:World}{vm vl:Nat->Value}{T:Nat->Wb}(h:Zcc o g n S w vm vl T)(i:Nat)(hi:i<n):w.cell? ⟨g,i*2,none⟩=some (vm i)/\w.cell? ⟨g,i*2+1,none⟩=some (vl i):=by
 have e0:=h.blk.cell (i:=i*2) (by omega)
 have e1:=h.blk.cell (i:=i*2+1) (by omega)
 have a0:Za1 vm vl (i*2)=vm i:=by unfold Za1;rw [if_pos (by omega),show i*2 / 2=i by omega]
 have a1:Za1 vm vl (i*2+1)=vl i:=by unfold Za1;rw [if_neg (by omega),show (i*2+1) / 2=i by omega]
 rw [a0] at e0
 rw [a1] at e1
 exact⟨e0,e1⟩
theorem Zcc.ts{o:Bool}{g n:Nat}{S:Nat->Nat->Prop}{w:World}{vm vl:Nat->Value}{T:Nat->Wb}(h:Zcc o g n S w vm vl T):Zeo o g n S w vm vl T:=⟨h.blk.lt,h.cells,h.webs,h.off,h.apart,h.four⟩
theorem Zcc.sm{o:Bool}{g n:Nat}{S:Nat->Nat->Prop}{w w':World}{vm vl:Nat->Value}{T:Nat->Wb}(h:Zcc o g n S w vm vl T)(k:Sta (FtW g n S) w w'):Zcc o g n S w' vm vl T:=
 ⟨h.blk.same (k.2 g (Or.inl rfl)),fun i hi=>(h.webs i hi).sm (k.mono (fun _ hb=>Or.inr ⟨i,hi,hb⟩)),h.off,h.apart,h.four⟩
theorem Zcc.next{o:Bool}{g n:Nat}{S:Nat->Nat->Prop}{w w':World}{vm vl:Nat->Value}{T:Nat->Wb}(h:Zcc o g n S w vm vl T)(L:Below w.heap.size w w'):Zcc o g n S w' vm vl T:=h.sm (Sta.below L h.ts.bnd)
theorem Zcc.start{o:Bool}{g n:Nat}{w:World}(h:FB w g (n*2) (Za1 (fun _=>.slice none 0 0) (fun _=>.slice none 0 0)) 47)(hn:n<=4):Zcc o g n (fun _ _=>False) w (fun _=>.slice none 0 0) (fun _=>.slice none 0 0) (fun _=>([],[])):=
 ⟨h,fun _ _=>OwW.zero o w,fun _ _ h=>h,fun _ _ _ _ _ _ h=>h.elim,hn⟩
def ZbO(f:Nat->Nat->Prop)(m:Nat)(v:Nat->Prop)(i:Nat):Nat->Prop:=if i=m then v else f i
def updW(f:Nat->Wb)(m:Nat)(v:Wb)(i:Nat):Wb:=if i=m then v else f i
theorem Zcc.put{o:Bool}{g n:Nat}{S:Nat->Nat->Prop}{w w':World}{vm vl:Nat->Value}{T:Nat->Wb}(h:Zcc o g n S w vm vl T)(L:Below w.heap.size w w'){k:Nat}{F:Nat->Prop}{xm xl:Value}{t:Wb}(hw:OwW o F w' xm xl t.1 t.2)(hF:∀b,F b->w.heap.size<=b):
 Zcc o g n (ZbO S k F) ((w'.setCell ⟨g,k*2,none⟩ xm).setCell ⟨g,k*2+1,none⟩ xl) (ZaX vm k xm) (ZaX vl k xl) (updW T k t):=by
 have hg:=h.blk.lt
 have h':=h.next L
 have far:∀b,b≠g->((w'.setCell ⟨g,k*2,none⟩ xm).setCell ⟨g,k*2+1,none⟩ xl).heap[b]? =w'.heap[b]? :=fun b hb=>(Below.heap_setCell _ ⟨g,k*2+1,none⟩ xl b (fun e=>hb e)).trans (Below.heap_setCell _ ⟨g,k*2,none⟩ xm b (fun e=>hb e))
 have sz:w'.heap.size<=((w'.setCell ⟨g,k*2,none⟩ xm).setCell ⟨g,k*2+1,none⟩ xl).heap.size:=by rw [Zb,Zb];exact Nat.le_refl _
 refine⟨((h'.blk.set (k*2) xm).set (k*2+1) xl).congr (fun j hj=>?_),fun i hi=>?_,fun i hi=>?_,fun i j hi hj hne b=>?_,h.four⟩
 · unfold ZaX Za1
   by_cases e1:j=k*2+1
   · rw [if_pos e1,if_neg (by omega)]
     show xl=if j / 2=k then xl else vl (j / 2)
     rw [if_pos (by omega)]
   · rw [if_neg e1]
     by_cases e0:j=k*2
     · rw [if_pos e0,if_pos (by omega)]
       show xm=if j / 2=k then xm else vm (j / 2)
       rw [if_pos (by omega)]
     · rw [if_neg e0]
       by_cases e2:j % 2=0
       · rw [if_pos e2,if_pos e2]
         show vm (j / 2)=if j / 2=k then xm else vm (j / 2)
         rw [if_neg (by omega)]
       · rw [if_neg e2,if_neg e2]
         show vl (j / 2)=if j / 2=k then xl else vl (j / 2)
         rw [if_neg (by omega)]
 · unfold ZbO ZaX updW
   by_cases e:i=k
   · rw [if_pos e,if_pos e,if_pos e,if_pos e]
     exact hw.sm ⟨sz,fun b hb=>far b (fun eq=>by have:=hF b hb;omega)⟩
   · rw [if_neg e,if_neg e,if_neg e,if_neg e]
     exact (h'.webs i hi).sm ⟨sz,fun b hb=>far b (fun eq=>h.off i hi (eq ▸ hb))⟩
 · unfold ZbO
   by_cases e:i=k
   · rw [if_pos e]
     exact fun hb=>by have:=hF g hb;omega
   · rw [if_neg e]
     exact h.off i hi
 · unfold ZbO
   by_cases e:i=k
   · rw [if_pos e,if_neg (by omega)]
     exact fun hb hb'=>by have:=hF b hb;have:=(h.webs j hj).bnd b hb';omega
   · rw [if_neg e]
     by_cases e':j=k
     · rw [if_pos e']
       exact fun hb hb'=>by have:=hF b hb';have:=(h.webs i hi).bnd b hb;omega
     · rw [if_neg e']
       exact h.apart i j hi hj hne b
theorem Zcc.as{o:Bool}{g n:Nat}{S:Nat->Nat->Prop}{w:World}{vm vl:Nat->Value}{T U:Nat->Wb}(h:Zcc o g n S w vm vl T)(e:∀i,i<n->T i=U i):Zcc o g n S w vm vl U:=
 ⟨h.blk,fun i hi=>by rw [<-e i hi];exact h.webs i hi,h.off,h.apart,h.four⟩
def ZbK(vm vl:Nat->Value)(n:Nat):List Value:=(List.range (n*2)).map (Za1 vm vl)
theorem ZgC{vm vl:Nat->Value}{n j:Nat}(h:j<n*2):(ZbK vm vl n)[j]? =some (Za1 vm vl j):=by simp [ZbK,h]
theorem Zkw(vm vl:Nat->Value)(n:Nat)(xm xl:Value):ZbK (ZaX vm n xm) (ZaX vl n xl) (n+1)=ZbK vm vl n++[xm,xl]:=by
 refine List.ext_getElem (by simp [ZbK];omega) (fun j h1 h2=>?_)
 have hj:j<(n+1)*2:=by simpa [ZbK] using h1
 have e1:(ZbK (ZaX vm n xm) (ZaX vl n xl) (n+1))[j]=Za1 (ZaX vm n xm) (ZaX vl n xl) j:=by simp [ZbK]
 rw [e1]
 unfold Za1 ZaX
 by_cases hl:j<n*2
 · rw [List.getElem_append_left (by simpa [ZbK] using hl)]
   simp only [ZbK,List.getElem_map,List.getElem_range,Za1]
   have hne:¬(j / 2=n):=by omega
   by_cases e:j % 2=0
   · rw [if_pos e,if_pos e];simp [hne]
   · rw [if_neg e,if_neg e];simp [hne]
 · rw [List.getElem_append_right (by simp [ZbK];omega)]
   have hlen:(ZbK vm vl n).length=n*2:=by simp [ZbK]
   have hd:j / 2=n:=by omega
   by_cases e:j % 2=0
   · have:j-(ZbK vm vl n).length=0:=by omega
     rw [if_pos e];simp [this,hd]
   · have:j-(ZbK vm vl n).length=1:=by omega
     rw [if_neg e];simp [this,hd]
structure TsR(o:Bool)(base:Nat)(w:World)(v:Value)(ts:List Wb)(S:Nat->Nat->Prop)(vm vl:Nat->Value):Prop where
 row:w.ownsRow base 47 2 v ts.length (ZbK vm vl ts.length)
 webs:∀i,i<ts.length->OwW o (S i) w (vm i) (vl i) (Zl ts i).1 (Zl ts i).2
 off:∀i,i<ts.length->∀g,v.ownBlock=some g->¬S i g
 apart:∀i j,i<ts.length->j<ts.length->i≠j->∀b,S i b->¬S j b
 four:ts.length<=4
 low:∀i b,i<ts.length->S i b->base<=b
theorem TsR.start(o:Bool)(base:Nat)(w:World):TsR o base w (.slice none 0 0) [] (fun _ _=>False) (fun _=>.slice none 0 0) (fun _=>.slice none 0 0):=
 ⟨⟨rfl,Or.inl ⟨rfl,rfl⟩⟩,fun i hi=>absurd hi (by simp),fun i hi=>absurd hi (by simp),fun i j hi=>absurd hi (by simp),by simp,fun i b hi=>absurd hi (by simp)⟩
def FtR(v:Value)(n:Nat)(S:Nat->Nat->Prop)(b:Nat):Prop:=v.ownBlock=some b\/∃i,i<n/\S i b
theorem Za2{base:Nat}{w w':World}{e:TypeId}{size n:Nat}{v:Value}{xs:List Value}(h:w.ownsRow base e size v n xs)(k:∀g,v.ownBlock=some g->w'.heap[g]? =w.heap[g]?):w'.ownsRow base e size v n xs:=by
 obtain⟨h1,h2 | ⟨g,cap,cur,rfl,hb,hg,h3⟩⟩:=h
 · exact⟨h1,Or.inl h2⟩
 · exact⟨h1,Or.inr ⟨g,cap,cur,rfl,hb,(k g rfl).trans hg,h3⟩⟩
theorem TsR.sm{o:Bool}{base:Nat}{w w':World}{v:Value}{ts:List Wb}{S:Nat->Nat->Prop}{vm vl:Nat->Value}(h:TsR o base w v ts S vm vl)(k:Sta (FtR v ts.length S) w w'):TsR o base w' v ts S vm vl:=
 ⟨Za2 h.row (fun g e=>k.2 g (Or.inl e)),fun i hi=>(h.webs i hi).sm (k.mono (fun _ hb=>Or.inr ⟨i,hi,hb⟩)),h.off,h.apart,h.four,h.low⟩
theorem TsR.bnd{o:Bool}{base:Nat}{w:World}{v:Value}{ts:List Wb}{S:Nat->Nat->Prop}{vm vl:Nat->Value}(h:TsR o base w v ts S vm vl)(b:Nat)(hb:FtR v ts.length S b):base<=b/\b<w.heap.size:=by
 rcases hb with e | ⟨i,hi,hs⟩
 · exact World.ownsRow.lt h.row b e
 · exact⟨h.low i b hi hs,(h.webs i hi).bnd b hs⟩
theorem TsR.next{o:Bool}{base:Nat}{w w':World}{v:Value}{ts:List Wb}{S:Nat->Nat->Prop}{vm vl:Nat->Value}(h:TsR o base w v ts S vm vl)(L:Below w.heap.size w w'):TsR o base w' v ts S vm vl:=h.sm (Sta.below L (fun b hb=>(h.bnd b hb).2))
theorem TsR.form{o:Bool}{base:Nat}{w:World}{v:Value}{ts:List Wb}{S:Nat->Nat->Prop}{vm vl:Nat->Value}(h:TsR o base w v ts S vm vl):∃a c,v=.slice a ts.length c/\ts.length<=c/\Zz true w a ts:=by
 obtain⟨h1,⟨rfl,h2⟩ | ⟨g,cap,cur,rfl,hb,hg,hc,h3⟩⟩:=h.row
 · exact⟨none,0,by rw [h2],by omega,Or.inl (List.length_eq_zero_iff.1 h2)⟩
 · have hr:=h.row
   refine⟨some ⟨g,0,none⟩,cap,rfl,hc,Or.inr ⟨g,0,rfl,(World.ownsRow.lt hr g rfl).2,fun i hi=>?_⟩⟩
   obtain⟨am,cm,al,cl,e1,e2,l1,l2,hv⟩:=(h.webs i hi).view
   have c0:=World.ownsRow.cellAt hr (i*2) (by omega)
   have c1:=World.ownsRow.cellAt hr (i*2+1) (by omega)
   rw [ZgC (by omega)] at c0 c1
   have a0:Za1 vm vl (i*2)=vm i:=by unfold Za1;rw [if_pos (by omega),show i*2 / 2=i by omega]
   have a1:Za1 vm vl (i*2+1)=vl i:=by unfold Za1;rw [if_neg (by omega),show (i*2+1) / 2=i by omega]
   rw [a0,e1] at c0
   rw [a1,e2] at c1
   obtain⟨v1,v2⟩:=hv w (Sta.refl _ _)
   rw [Nat.zero_add]
   exact⟨am,cm,al,cl,c0,c1,v1,v2,fun _=>⟨l1,l2⟩⟩
theorem TsR.snoc{o:Bool}{base:Nat}{w w8:World}{v:Value}{ts:List Wb}{S:Nat->Nat->Prop}{vm vl:Nat->Value}(h:TsR o base w v ts S vm vl){gg cc:Nat}{F:Nat->Prop}{xm xl:Value}{t:Wb}
 (hown:w8.ownsRow base 47 2 (.slice (some ⟨gg,0,none⟩) (ts.length+1) cc) (ts.length+1) (ZbK vm vl ts.length++[xm,xl])) (hsz:w.heap.size<=w8.heap.size) (hsame:∀b,b<w.heap.size->v.ownBlock≠some b->w8.heap[b]? =w.heap[b]?)
 (hw:OwW o F w8 xm xl t.1 t.2) (hF:∀b,F b->w.heap.size<=b/\b≠gg) (hg:v.ownBlock=some gg\/w.heap.size<=gg) (hb:base<=w.heap.size) (h4:ts.length+1<=4):
 TsR o base w8 (.slice (some ⟨gg,0,none⟩) (ts.length+1) cc) (ts++[t]) (ZbO S ts.length F) (ZaX vm ts.length xm) (ZaX vl ts.length xl):=by
 have hlen:(ts++[t]).length=ts.length+1:=by simp
 have hnew:Zl (ts++[t]) ts.length=t:=by simp [Zl,List.getD]
 have hold:∀i,i<ts.length->Zl (ts++[t]) i=Zl ts i:=fun i hi=>by simp [Zl,List.getD,List.getElem?_append_left hi]
 refine⟨by rw [hlen,Zkw];exact hown,fun i hi=>?_,fun i hi g e=>?_,fun i j hi hj hne b=>?_,by rw [hlen];exact h4,fun i b hi hs=>?_⟩
 · rw [hlen] at hi
   unfold ZbO ZaX
   by_cases e:i=ts.length
   · rw [if_pos e,if_pos e,if_pos e,e,hnew];exact hw
   · rw [if_neg e,if_neg e,if_neg e,hold i (by omega)]
     exact (h.webs i (by omega)).sm ⟨hsz,fun b hb=>hsame b ((h.webs i (by omega)).bnd b hb) (fun e'=>h.off i (by omega) b e' hb)⟩
 · rw [hlen] at hi
   have e':g=gg:=by simpa [Value.ownBlock] using e.symm
   unfold ZbO
   by_cases e2:i=ts.length
   · rw [if_pos e2];exact fun hb=>(hF g hb).2 e'
   · rw [if_neg e2]
     intro hb
     have hbb:=(h.webs i (by omega)).bnd g hb
     rcases hg with h1 | h1
     · exact h.off i (by omega) g (by rw [e'];exact h1) hb
     · omega
 · rw [hlen] at hi hj
   unfold ZbO
   by_cases e:i=ts.length
   · rw [if_pos e,if_neg (by omega)]
     exact fun hb hb'=>by have:=hF b hb;have:=(h.webs j (by omega)).bnd b hb';omega
   · rw [if_neg e]
     by_cases e2:j=ts.length
     · rw [if_pos e2]
       exact fun hb hb'=>by have:=hF b hb';have:=(h.webs i (by omega)).bnd b hb;omega
     · rw [if_neg e2]
       exact h.apart i j (by omega) (by omega) hne b
 · rw [hlen] at hi
   unfold ZbO at hs
   by_cases e:i=ts.length
   · rw [if_pos e] at hs;have:=hF b hs;omega
   · rw [if_neg e] at hs;exact h.low i b (by omega) hs
structure TsO(o:Bool)(S:Nat->Prop)(w:World)(v:Value)(ts:List Wb):Prop where
 bnd:∀b,S b->b<w.heap.size
 ow:o=true->∃N,N<=400000/\Ow 165 166 S w v N
 view:∃a c,v=.slice a ts.length c/\ts.length<=c/\∀w',Sta S w w'->Zz true w' a ts
theorem TsO.sm{o:Bool}{S:Nat->Prop}{w w':World}{v:Value}{ts:List Wb}(h:TsO o S w v ts)(k:Sta S w w'):TsO o S w' v ts:=by
 obtain⟨a,c,e,hc,hv⟩:=h.view
 exact⟨fun b hb=>Nat.lt_of_lt_of_le (h.bnd b hb) k.1,fun hq=>by obtain⟨N,hN,ho⟩:=h.ow hq;exact⟨N,hN,ho.sm k⟩,⟨a,c,e,hc,fun w2 k2=>hv w2 (k.trans k2)⟩⟩
theorem TsO.next{o:Bool}{S:Nat->Prop}{w w':World}{v:Value}{ts:List Wb}(h:TsO o S w v ts)(L:Below w.heap.size w w'):TsO o S w' v ts:=h.sm (Sta.below L h.bnd)
theorem TsO.mono{o:Bool}{S T:Nat->Prop}{w:World}{v:Value}{ts:List Wb}(h:TsO o S w v ts)(ht:∀b,T b->b<w.heap.size)(k:∀b,S b->T b):TsO o T w v ts:=by
 obtain⟨a,c,e,hc,hv⟩:=h.view
 exact⟨ht,fun hq=>by obtain⟨N,hN,ho⟩:=h.ow hq;exact⟨N,hN,ho.mono ht k⟩,⟨a,c,e,hc,fun w2 k2=>hv w2 (k2.mono k)⟩⟩
theorem TsO.zero(o:Bool)(w:World):TsO o (fun _=>False) w (.slice none 0 0) []:=
 ⟨fun _ h=>h.elim,fun _=>⟨0,by omega,Zl6 0 w⟩,⟨none,0,rfl,Nat.le_refl _,fun _ _=>Or.inl rfl⟩⟩
theorem Zeo.out{o:Bool}{g:Nat}{S:Nat->Nat->Prop}{w:World}{vm vl:Nat->Value}{ts:List Wb}(cap:Nat)(hc:ts.length<=cap)(h:Zeo o g ts.length S w vm vl (Zl ts)):TsO o (FtW g ts.length S) w (.slice (some ⟨g,0,none⟩) ts.length cap) ts:=by
 refine⟨h.bnd,fun ho=>?_,⟨_,cap,rfl,hc,fun w' hs=>?_⟩⟩
 · subst ho
   refine⟨_,?_,Zng cap h⟩
   have:=h.size ts.length (Nat.le_refl _)
   have:=h.four
   omega
 · have h':=h.sm hs
   refine Or.inr ⟨g,0,rfl,h'.lt,fun i hi=>?_⟩
   obtain⟨am,cm,al,cl,e1,e2,l1,l2,hv⟩:=(h'.webs i hi).view
   have c0:=(h'.cells i hi).1
   have c1:=(h'.cells i hi).2
   obtain⟨v1,v2⟩:=hv w' (Sta.refl _ _)
   rw [e1] at c0
   rw [e2] at c1
   rw [Nat.zero_add]
   exact⟨am,cm,al,cl,c0,c1,v1,v2,fun _=>⟨l1,l2⟩⟩
theorem Zl7{S:Nat->Prop}{w:World}{v:Value}{N:Nat}(d:Int)(h:Ow 165 166 S w v N):Ow 70 72 S w (.agg #[.int .i64 d,v]) N:=by
 refine⟨h.bnd,fun w' hs k0 h0 h1=>?_⟩
 obtain⟨W,hW⟩:∃W,w'.alloc (.cells #[.int .i64 d,v] 26)=W:=⟨_,rfl⟩
 have hB:Below w'.heap.size w' W:=by rw [<-hW];exact (Below.refl _ _).alloc (Nat.le_refl _) _
 have k1:W.cell? ⟨w'.heap.size,1,none⟩=some v:=by rw [<-hW];simp
 have hbn:∀b,S b->b<w'.heap.size:=fun b hb=>Nat.lt_of_lt_of_le (h.bnd b hb) hs.1
 have HC:=Za (h.act W (hs.trans (Sta.below hB hbn)) k0 h0 h1)
 have HB:=Za hB
 have HBN:=Za hbn
 clear hs hB hbn h
 go_enter Tryz.func70,Tryz.ntmps70
 go_wp2_with fail
 refine HC.out.mono ?_
 rintro e w1 ⟨rfl,c1,d1⟩
 have HD:=Za (And.intro c1 d1)
 clear c1 d1 hW k1
 go_wp2_with fail
 go_ret
 refine⟨rfl,(Cgd.of HB.out).trans HD.out.1,fun W2 hW2=>?_⟩
 obtain⟨W3,hW3⟩:∃W,W2.alloc (.cells #[.int .i64 d,v] 26)=W:=⟨_,rfl⟩
 have hB3:Below W2.heap.size W2 W3:=by rw [<-hW3];exact (Below.refl _ _).alloc (Nat.le_refl _) _
 have k3:W3.cell? ⟨W2.heap.size,1,none⟩=some v:=by rw [<-hW3];simp
 have HE:=Za (HD.out.2 W3 (hW2.trans (Sta.below hB3 (fun b hb=>by have:=HBN.out b hb;have:=HB.out.size;have:=HD.out.1.2.2.2.1;have:=hW2.1;omega))))
 have HB3:=Za hB3
 clear HD HC hW2 hB3 HBN
 go_enter Tryz.func72,Tryz.ntmps72
 go_wp2_with fail
 refine HE.out.mono ?_
 rintro e w4 ⟨rfl,L4⟩
 have HL:=Za (Zd HB3.out L4)
 clear L4 hW3 k3
 go_wp2_with fail
 go_ret
 exact⟨rfl,HL.out⟩
structure StO(o:Bool)(S:Nat->Prop)(w:World)(v:Value)(wd:Int)(ms:List Mk)(d:Int)(ts:List Wb)(nx:Int):Prop where
 bnd:∀b,S b->b<w.heap.size
 ow:o=true->∃N,N<=500000/\Ow 78 80 S w v N
 view:∃am cm aw cw,v=.agg #[.int .i64 wd,.slice am ms.length cm,.int .i64 d,.slice aw ts.length cw,.int .i64 nx]/\ms.length<=cm/\ts.length<=cw/\∀w',Sta S w w'->Zq w' am ms/\Zz true w' aw ts
theorem Zl8{S F G:Nat->Prop}{w:World}{vm vt:Value}{N K:Nat}(wd d nx:Int)(hm:Ow 170 171 F w vm N)(ht:Ow 165 166 G w vt K)(hS:∀b,S b->b<w.heap.size)(hF:∀b,F b->S b)(hG:∀b,G b->S b)(hd:∀b,F b->¬G b):
 Ow 78 80 S w (.agg #[.int .i64 wd,vm,.int .i64 d,vt,.int .i64 nx]) (N+K):=by
 refine⟨hS,fun w' hs k0 h0 h1=>?_⟩
 have ht2:=Zl7 d ht
 obtain⟨W,hW⟩:∃W,w'.alloc (.cells #[.int .i64 wd,vm,.int .i64 d,vt,.int .i64 nx] 52)=W:=⟨_,rfl⟩
 have hB:Below w'.heap.size w' W:=by rw [<-hW];exact (Below.refl _ _).alloc (Nat.le_refl _) _
 have hlt:w'.heap.size<W.heap.size:=by rw [<-hW];simp
 have k1:W.cell? ⟨w'.heap.size,1,none⟩=some vm:=by rw [<-hW];simp
 have k2:W.cell? ⟨w'.heap.size,2,none⟩=some (.int .i64 d):=by rw [<-hW];simp
 have k3:W.cell? ⟨w'.heap.size,3,none⟩=some vt:=by rw [<-hW];simp
 have hbn:∀b,S b->b<w'.heap.size:=fun b hb=>Nat.lt_of_lt_of_le (hS b hb) hs.1
 have hsW:=hs.trans (Sta.below hB hbn)
 have HM:=Za (hm.act W (hsW.mono hF) k0 h0 (by omega))
 have HT:=Za (ht2.sm (hsW.mono hG))
 have HB:=Za hB
 have HBN:=Za hbn
 have HK:=Za (And.intro k2 k3)
 have HFG:=Za (And.intro hF (And.intro hG hd))
 clear hs hsW hB hbn hm ht ht2 k2 k3 hF hG hd hS
 go_enter Tryz.func78,Tryz.ntmps78
 go_wp2_with fail
 refine HM.out.mono ?_
 rintro e w1 ⟨rfl,c1,d1⟩
 have hnS:¬F w'.heap.size:=fun h=>by have:=HBN.out _ (HFG.out.1 _ h);omega
 have eb:=c1.2.2.2.2 w'.heap.size hlt hnS
 have k2':=(World.cell?_of_block (a:=⟨w'.heap.size,2,none⟩) eb).trans HK.out.1
 have k3':=(World.cell?_of_block (a:=⟨w'.heap.size,3,none⟩) eb).trans HK.out.2
 have hG1:Sta G W w1:=c1.sm (fun b hb=>by have:=HBN.out b (HFG.out.2.1 b hb);omega) (fun b hb hf=>HFG.out.2.2 b hf hb)
 have HT1:=Za (HT.out.act w1 hG1 (k0+N) (by omega) (by omega))
 have HC:=Za (And.intro c1 d1)
 clear c1 d1 hnS eb hG1 HM HT hW k1
 go_wp2_with fail
 refine HT1.out.mono ?_
 rintro e w2 ⟨rfl,c2,d2⟩
 have HD:=Za (And.intro c2 d2)
 clear c2 d2 HT1 k2' k3'
 go_wp2_with fail
 go_ret
 have hs1:=HC.out.1.2.2.2.1
 have hs2:=HD.out.1.2.2.2.1
 refine⟨ZK (by omega),(Cgd.of HB.out).trans ((HC.out.1.mono HFG.out.1).trans (HD.out.1.mono HFG.out.2.1)),fun W2 hW2=>?_⟩
 obtain⟨W3,hW3⟩:∃W,W2.alloc (.cells #[.int .i64 wd,vm,.int .i64 d,vt,.int .i64 nx] 52)=W:=⟨_,rfl⟩
 have hB3:Below W2.heap.size W2 W3:=by rw [<-hW3];exact (Below.refl _ _).alloc (Nat.le_refl _) _
 have hlt3:W2.heap.size<W3.heap.size:=by rw [<-hW3];simp
 have k1:W3.cell? ⟨W2.heap.size,1,none⟩=some vm:=by rw [<-hW3];simp
 have k2:W3.cell? ⟨W2.heap.size,2,none⟩=some (.int .i64 d):=by rw [<-hW3];simp
 have k3:W3.cell? ⟨W2.heap.size,3,none⟩=some vt:=by rw [<-hW3];simp
 have hw3:Sta S w2 W3:=hW2.trans (Sta.below hB3 (fun b hb=>by have:=HBN.out b hb;have:=hW2.1;omega))
 have hF3:Sta F w1 W3:=(HD.out.1.sm (T:=F) (fun b hb=>by have:=HBN.out b (HFG.out.1 b hb);omega) (fun b hb hg=>HFG.out.2.2 b hb hg)).trans (hw3.mono HFG.out.1)
 have HE:=Za (HC.out.2 W3 hF3)
 have HE2:=Za (fun W4 (L:Below W3.heap.size W3 W4)=>HD.out.2 W4 ((hw3.mono HFG.out.2.1).trans (Sta.below L (fun b hb=>by have:=HBN.out b (HFG.out.2.1 b hb);have:=hw3.1;omega))))
 have HB3:=Za hB3
 have HK3:=Za (And.intro k2 k3)
 clear HC HD hW2 hB3 HBN k2 k3 hw3 hF3 HFG HK hs1 hs2
 go_enter Tryz.func80,Tryz.ntmps80
 go_wp2_with fail
 refine HE.out.mono ?_
 rintro e w4 ⟨rfl,L4⟩
 have k2:=(L4.cell (p:=⟨W2.heap.size,2,none⟩) hlt3).trans HK3.out.1
 have k3:=(L4.cell (p:=⟨W2.heap.size,3,none⟩) hlt3).trans HK3.out.2
 have HE3:=Za (HE2.out w4 L4)
 have HL:=Za (Zd HB3.out L4)
 clear L4 hW3 k1 HE HE2 HK3
 go_wp2_with fail
 refine HE3.out.mono ?_
 rintro e w5 ⟨rfl,L5⟩
 have HL5:=Za (Zd HL.out L5)
 clear L5 k2 k3
 go_wp2_with fail
 go_ret
 exact⟨ZK (by omega),HL5.out⟩
theorem StO.of{o:Bool}{S F G:Nat->Prop}{w:World}{am:Option Addr}{cm:Nat}{vt:Value}{N:Nat}(wd:Int){ms:List Mk}(d:Int){ts:List Wb}(nx:Int)(hm:o=true->Ow 170 171 F w (.slice am ms.length cm) N)(hN:N<=100000)(hc:ms.length<=cm)(hv:∀w',Sta F w w'->Zq w' am ms)(ht:TsO o G w vt ts)(hS:∀b,S b->b<w.heap.size)(hF:∀b,F b->S b)(hG:∀b,G b->S b)(hd:∀b,F b->¬G b):
 StO o S w (.agg #[.int .i64 wd,.slice am ms.length cm,.int .i64 d,vt,.int .i64 nx]) wd ms d ts nx:=by
 obtain⟨a,c,e,hcc,hw⟩:=ht.view
 have how:=ht.ow
 rw [e] at how ⊢
 exact⟨hS,fun hq=>by obtain⟨K,hK,ho⟩:=how hq;exact⟨N+K,by omega,Zl8 wd d nx (hm hq) ho hS hF hG hd⟩,⟨am,cm,a,c,rfl,hc,hcc,fun w' hs=>⟨hv w' (hs.mono hF),hw w' (hs.mono hG)⟩⟩⟩
theorem StO.zero(o:Bool)(w:World):StO o (fun _=>False) w (.agg #[.int .i64 0,.slice none 0 0,.int .i64 0,.slice none 0 0,.int .i64 0]) 0 [] 0 [] 0:=
 StO.of (F:=fun _=>False) (G:=fun _=>False) 0 0 0 (fun _=>Zgc 0 w) (by omega) (Nat.le_refl _) (fun _ _=>Or.inl rfl) (TsO.zero o w) (fun _ h=>h.elim) (fun _ h=>h) (fun _ h=>h) (fun _ h=>h.elim)
theorem Zcc.tsr{o:Bool}{base g:Nat}{S:Nat->Nat->Prop}{w:World}{vm vl:Nat->Value}{ts:List Wb}(h:Zcc o g ts.length S w vm vl (Zl ts))(hg:base<=g)(hs:∀i b,S i b->base<=b):TsR o base w (.slice (some ⟨g,0,none⟩) ts.length ts.length) ts S vm vl:=
 ⟨h.blk.own hg (by have:=h.four;unfold maxLen;omega),h.webs,fun i hi q e=>by injection e with e;rw [<-e];exact h.off i hi,h.apart,h.four,fun i b _ hb=>hs i b hb⟩
theorem TsR.out{o:Bool}{base:Nat}{w:World}{v:Value}{ts:List Wb}{S:Nat->Nat->Prop}{vm vl:Nat->Value}(h:TsR o base w v ts S vm vl):TsO o (Btw base w.heap.size) w v ts:=by
 have hbnd:=h.bnd
 obtain⟨h1,⟨rfl,h2⟩ | ⟨g,cap,cur,rfl,hb',hg,hc,h3⟩⟩:=h.row
 · obtain rfl:ts=[]:=List.length_eq_zero_iff.1 h2
   exact (TsO.zero o w).mono (fun b hq=>hq.2) (fun b hq=>hq.elim)
 · have hr:=h.row
   have ot:Zeo o g ts.length S w vm vl (Zl ts):=⟨(World.ownsRow.lt hr g rfl).2,fun i hi=>by
    have c0:=World.ownsRow.cellAt hr (i*2) (by omega)
    have c1:=World.ownsRow.cellAt hr (i*2+1) (by omega)
    rw [ZgC (by omega)] at c0 c1
    have a0:Za1 vm vl (i*2)=vm i:=by unfold Za1;rw [if_pos (by omega),show i*2 / 2=i by omega]
    have a1:Za1 vm vl (i*2+1)=vl i:=by unfold Za1;rw [if_neg (by omega),show (i*2+1) / 2=i by omega]
    rw [a0] at c0
    rw [a1] at c1
    exact⟨c0,c1⟩,h.webs,fun i hi=>h.off i hi g rfl,h.apart,h.four⟩
   refine (ot.out cap hc).mono (fun b hq=>hq.2) (fun b hq=>hbnd b ?_)
   rcases hq with rfl | hq
   · exact Or.inl rfl
   · exact Or.inr hq
theorem Ze9(v:Bool)(aw:Option Addr)(cw:Nat)(d:Int)(ts:List Wb)(w:World)(hv:Zz v w aw ts)(hok:ZZ d ts=true)(hsm:ZaB ts):
 Calls Tryz.prog 101 #[.agg #[.int .i64 d,.slice aw ts.length cw]] w fun e w'=>∃vt,e=.returned (.agg #[.int .i64 d,vt])/\(∃S vm vl,TsR true w.heap.size w' vt ts S vm vl)/\Below w.heap.size w w':=by
 obtain⟨W1,hW1⟩:∃W,w.alloc (.cells #[.int .i64 d,.slice aw ts.length cw] 26)=W:=⟨_,rfl⟩
 have hB1:Below w.heap.size w W1:=by rw [<-hW1];exact (Below.refl _ _).alloc (Nat.le_refl _) _
 have hT1:Two W1 w.heap.size (.int .i64 d) (.slice aw ts.length cw) 26:=by rw [<-hW1];exact Two.new w _ _ _
 obtain⟨W,hW⟩:∃W,W1.alloc (.cells #[.int .i64 0,.slice none 0 0] 26)=W:=⟨_,rfl⟩
 have hB2:Below W1.heap.size W1 W:=by rw [<-hW];exact (Below.refl _ _).alloc (Nat.le_refl _) _
 have s1:W1.heap.size=w.heap.size+1:=by rw [<-hW1];simp
 have s2:W.heap.size=w.heap.size+2:=by rw [<-hW];simp [s1]
 have TR:Two W (w.heap.size+1) (.int .i64 0) (.slice none 0 0) 26:=by rw [<-hW,<-s1];exact Two.new W1 _ _ _
 have TA:=hT1.below hB2
 have h4:=(ZaW hok).1
 have hmk:∀w0:World,(Instr.makeSlice 24 (.int .i64 (ts.length:Int)) (.int .i64 (ts.length:Int))).run Tryz.prog w0=.ok (.slice (some ⟨w0.heap.size,0,none⟩) ts.length ts.length) (w0.alloc (.cells (madeCells #[.slice none 0 0,.slice none 0 0] (ts.length*2)) 47)):=fun w0=>Zak (P:=Tryz.prog) 24 47 (.agg #[.slice none 0 0,.slice none 0 0]) 2 48 Tryz.underlying24 Tryz.info47 .i64 .i64 ts.length (by omega) (by omega) w0
 have HB:=Za (Zd hB1 hB2)
 have HV:=Za (fun W' (L:Below w.heap.size w W')=>hv.next L)
 have HOK:=Za (And.intro hok hsm)
 have HTA:=Za TA
 have HTR:=Za TR
 have HSZ:=Za (And.intro s1 s2)
 have HS:Hid (∀W',Below W.heap.size W W'->W'.cell? ⟨w.heap.size,0,none⟩=some (.int .i64 d)/\W'.cell? ⟨w.heap.size,1,none⟩=some (.slice aw ts.length cw)):=fun W' L'=>⟨(TA.below L').c0,(TA.below L').c1⟩
 have BL:=Za ((Below.refl W.heap.size W).drew)
 have HWW:Hid ((w.alloc (.cells #[.int .i64 d,.slice aw ts.length cw] 26)).alloc (.cells #[.int .i64 0,.slice none 0 0] 26)=W):=by show _=_;rw [hW1,hW]
 have H4:=Za h4
 clear hv hB1 hT1 hB2 TR TA s1 s2 hW hW1 hok hsm h4
 go_enter Tryz.func101,Tryz.ntmps101
 go_upto_region 1 with fail
 rw [HWW.out]
 clear HWW
 go_cut [3] from 6 to 12 (fun v wx=>∃o g,v=.pointer (some ⟨o,0,none⟩)/\Two wx o (.int .i64 d) (.slice (some ⟨g,0,none⟩) ts.length ts.length) 26/\FB wx g (ts.length*2) (Za1 (fun _=>.slice none 0 0) (fun _=>.slice none 0 0)) 47/\W.heap.size<=o/\W.heap.size<=g/\o≠g/\Below W.heap.size W wx)
 case first=>
  refine Zt (S:=fun W'=>Below W.heap.size W W') (fuel:=4) [0,1,2,3,4] (by kernel_rfl) (by kernel_rfl) (by kernel_rfl) (by kernel_rfl) BL.out (fun _=>?_)
  iterate 5 (refine⟨_,rfl,?_⟩;apply Exists.intro;refine⟨Or.inl ⟨by rfl,fun w' hw'=>?_⟩,?_⟩;(focus (obtain⟨e1,e2⟩:=HS.out w' hw';first | (go_simp;done) | (go_simp;with_reducible rfl)));simp only [Act.put,List.getElem_toArray,List.getElem_cons_succ,List.getElem_cons_zero,List.setIfInBounds_toArray,List.set_cons_zero,List.set_cons_succ])
  obtain⟨wv0,hv0⟩:∃w0,W.drew=w0:=⟨_,rfl⟩
  have B0:Below W.heap.size W wv0:=by rw [<-hv0];exact BL.out
  have s0:W.heap.size<=wv0.heap.size:=B0.size
  rw [hv0]
  clear hv0
  refine ZD 5 7 (by kernel_rfl) rfl rfl (fun K hK=>?_) (fun K hK=>?_)
  · go_simp
    obtain⟨w1,hX⟩:∃w0,wv0.alloc (.cells (madeCells #[.slice none 0 0,.slice none 0 0] (ts.length*2)) 47)=w0:=⟨_,rfl⟩
    have LX:Below wv0.heap.size wv0 w1:=by rw [<-hX];exact (Below.refl _ _).alloc (Nat.le_refl _) _
    have sX:wv0.heap.size<w1.heap.size:=by rw [<-hX];simp
    have Fg:FB w1 wv0.heap.size (ts.length*2) (Za1 (fun _=>.slice none 0 0) (fun _=>.slice none 0 0)) 47:=by rw [<-hX];exact FB.madeW wv0 _ _
    have B1:Below W.heap.size W w1:=Zd B0 LX
    obtain⟨g,hg⟩:∃q,wv0.heap.size=q:=⟨_,rfl⟩
    have hg1:wv0.heap.size<=g:=by omega
    have hg2:g<w1.heap.size:=by omega
    rw [hX]
    rw [hg] at Fg ⊢
    refine hK.out _ _ B1 (fun _=>?_)
    clear hK K hX LX hg sX
    refine Zo 2 [6] (by kernel_rfl) (by kernel_rfl) (by kernel_rfl) B1 ?_
    iterate 1
     refine⟨_,rfl,?_⟩
     apply Exists.intro
     refine⟨Or.inl ⟨by rfl,fun w' hw'=>?_⟩,?_⟩
     · first
       | (go_simp;done)
       | (go_simp;with_reducible rfl)
     simp only [Act.put,List.getElem_toArray,List.getElem_cons_succ,List.getElem_cons_zero,List.setIfInBounds_toArray,List.set_cons_zero,List.set_cons_succ]
    refine Zc 7 (by kernel_rfl) rfl (fun K hK=>?_)
    go_simp
    refine hK.out _ _ (B1.alloc B1.size _) (fun _=>?_)
    clear hK K
    refine Zc 8 (by kernel_rfl) rfl (fun K hK=>?_)
    go_simp
    obtain⟨wz,hwz⟩:∃wz,w1.alloc (.cells #[.int .i64 d,.slice (some ⟨g,0,none⟩) ts.length ts.length] 26)=wz:=⟨_,rfl⟩
    have LZ:Below w1.heap.size w1 wz:=by rw [<-hwz];exact (Below.refl _ _).alloc (Nat.le_refl _) _
    have TZ:Two wz w1.heap.size (.int .i64 d) (.slice (some ⟨g,0,none⟩) ts.length ts.length) 26:=by rw [<-hwz];exact Two.new w1 _ _ _
    have hgl:=Fg.lt
    rw [hwz]
    refine hK.out _ _ (Zd B1 LZ) (fun _=>?_)
    clear hK K hwz
    refine wpAnyH_done (by kernel_rfl) ?_ _
    refine NoPanic.normal ?_
    try simp only [Exit.then]
    go_wp2_with fail
    go_meet
    exact⟨_,g,rfl,TZ,Fg.next LZ,by have:=B1.size;omega,by omega,by omega,Zd B1 LZ⟩
  · go_simp
    obtain⟨w1,hX⟩:∃w0,wv0.alloc (.cells #[.int .i64 0,.slice none 0 0] 26)=w0:=⟨_,rfl⟩
    have LX:Below wv0.heap.size wv0 w1:=by rw [<-hX];exact (Below.refl _ _).alloc (Nat.le_refl _) _
    have sX:wv0.heap.size<w1.heap.size:=by rw [<-hX];simp
    have Fo:Two w1 wv0.heap.size (.int .i64 0) (.slice none 0 0) 26:=by rw [<-hX];exact Two.new wv0 _ _ _
    have B1:Below W.heap.size W w1:=Zd B0 LX
    obtain⟨o,ho⟩:∃q,wv0.heap.size=q:=⟨_,rfl⟩
    have ho1:wv0.heap.size<=o:=by omega
    have ho2:o<w1.heap.size:=by omega
    rw [hX]
    rw [ho] at Fo ⊢
    refine hK.out _ _ B1 (fun _=>?_)
    clear hK K hX LX ho sX
    refine Zc 5 (by kernel_rfl) rfl (fun K hK=>?_)
    go_simp
    obtain⟨w2,hX⟩:∃w0,w1.alloc (.cells (madeCells #[.slice none 0 0,.slice none 0 0] (ts.length*2)) 47)=w0:=⟨_,rfl⟩
    have LX:Below w1.heap.size w1 w2:=by rw [<-hX];exact (Below.refl _ _).alloc (Nat.le_refl _) _
    have sX:w1.heap.size<w2.heap.size:=by rw [<-hX];simp
    have Fg:FB w2 w1.heap.size (ts.length*2) (Za1 (fun _=>.slice none 0 0) (fun _=>.slice none 0 0)) 47:=by rw [<-hX];exact FB.madeW w1 _ _
    replace Fo:=Fo.below LX
    have B2:Below W.heap.size W w2:=Zd B1 LX
    obtain⟨g,hg⟩:∃q,w1.heap.size=q:=⟨_,rfl⟩
    have hg1:w1.heap.size<=g:=by omega
    have hg2:g<w2.heap.size:=by omega
    rw [hX]
    rw [hg] at Fg ⊢
    refine hK.out _ _ B2 (fun _=>?_)
    clear hK K hX LX hg sX
    refine Zo 1 [6] (by kernel_rfl) (by kernel_rfl) (by kernel_rfl) B2 ?_
    iterate 1
     refine⟨_,rfl,?_⟩
     apply Exists.intro
     refine⟨Or.inl ⟨by rfl,fun w' hw'=>?_⟩,?_⟩
     · first
       | (go_simp;done)
       | (go_simp;with_reducible rfl)
     simp only [Act.put,List.getElem_toArray,List.getElem_cons_succ,List.getElem_cons_zero,List.setIfInBounds_toArray,List.set_cons_zero,List.set_cons_succ]
    have x0:=Fo.c0
    have x1:=Fo.c1
    have xf0:=Fo.frozen 0
    have xf1:=Fo.frozen 1
    have hgl1:=Fg.lt
    have hgl3:=Fo.lt
    refine Zc 8 (by kernel_rfl) rfl (fun K hK=>?_)
    go_simp
    obtain⟨wz,hwz⟩:∃wz,(w2.setCell ⟨o,0,none⟩ (.int .i64 d)).setCell ⟨o,1,none⟩ (.slice (some ⟨g,0,none⟩) ts.length ts.length)=wz:=⟨_,rfl⟩
    have TZ:Two wz o (.int .i64 d) (.slice (some ⟨g,0,none⟩) ts.length ts.length) 26:=by rw [<-hwz];exact (Fo.set0 _).set1 _
    have Fg2:FB wz g (ts.length*2) (Za1 (fun _=>.slice none 0 0) (fun _=>.slice none 0 0)) 47:=by rw [<-hwz];exact (Fg.far (by omega) _ _).far (by omega) _ _
    have BZ:Below W.heap.size W wz:=by rw [<-hwz];exact (B2.setCell (by show W.heap.size<=o;omega) _).setCell (by show W.heap.size<=o;omega) _
    rw [hwz]
    refine hK.out _ _ BZ (fun _=>?_)
    clear hK K hwz x0 x1 xf0 xf1
    refine wpAnyH_done (by kernel_rfl) ?_ _
    refine NoPanic.normal ?_
    try simp only [Exit.then]
    go_wp2_with fail
    go_meet
    exact⟨o,g,rfl,TZ,Fg2,by omega,by omega,by omega,BZ⟩
 case rest=>
  obtain⟨o,g,rfl,hTo,hFg,ho,hg,hog,LW⟩:=hcut
  generalize hwc:wc=w1 at *
  clear hwc wc hmk BL HS
  have HLW:=Za LW
  have hk0:=(HTA.out.below LW).c0
  have k1:=(HTA.out.below LW).c1
  have h44:=H4.out
  have HOB:=Za (Zcc.start (o:=true) hFg (by omega))
  have HTO:=Za hTo
  have hWs:=HSZ.out.2
  clear hTo hFg LW hk0 h44
  go_wp2_with fail
  clear k1
  go_loopg [16] ts.length (fun gk iv wr=>∃(k:Nat) (S:Nat->Nat->Prop) (vm vl:Nat->Value),k<=ts.length/\ts.length-k<=gk/\iv=.int .i64 k/\Zcc true g ts.length S wr vm vl (fun i=>if i<k then Zl ts i else ([],[]))/\(∀i b,S i b->W.heap.size<=b)/\Two wr o (.int .i64 d) (.slice (some ⟨g,0,none⟩) ts.length ts.length) 26/\Below W.heap.size W wr)
  case atStart=>exact⟨0,_,_,_,Nat.zero_le _,Nat.sub_le _ _,rfl,HOB.out.as (fun i _=>by rw [if_neg (by omega)]),fun _ _ h=>h.elim,HTO.out,HLW.out⟩
  case round=>
   obtain⟨k,S,vm,vl,hk,hgk,rfl,hp,hsb,hto,L⟩:=hrel
   have HP:=Za hp
   have HL:=Za L
   have HT:=Za hto
   have HSB:=Za hsb
   have hVr:=HV.out wr (Zd HB.out L)
   clear hp L hto hsb
   by_cases hlt:k<ts.length
   · obtain⟨wb,wo,am,cm,al,cl,rfl,hwb,c0,c1,hmv,hcv,-⟩:=hVr.web hlt
     have hi0:(0:Int)<=(k:Int):=Int.natCast_nonneg _
     have hi1:(k:Int)<(ts.length:Int):=by omega
     have hk3:k<4:=by have:=H4.out;omega
     have hweb:=Zcd HOK.out.1 (n:=k) (by have:=H4.out;omega)
     obtain⟨V1,hV⟩:∃V1,wr.alloc (.cells #[.slice am (Zl ts k).1.length cm,.slice al (Zl ts k).2.length cl] 47)=V1:=⟨_,rfl⟩
     have LV:Below wr.heap.size wr V1:=by rw [<-hV];exact (Below.refl _ _).alloc (Nat.le_refl _) _
     have hYl:wr.heap.size<V1.heap.size:=by rw [<-hV];simp
     have y0:V1.cell? ⟨wr.heap.size,0,none⟩=some (.slice am (Zl ts k).1.length cm):=by rw [<-hV];simp
     have y1:V1.cell? ⟨wr.heap.size,1,none⟩=some (.slice al (Zl ts k).2.length cl):=by rw [<-hV];simp
     have LVd:Below wr.heap.size wr V1.drew:=LV.drew
     have hOV:=(HT.out.below LVd).c1
     have HPD:=Za (HP.out.next LVd)
     have HTD:=Za (HT.out.below LVd)
     have HLD:=Za (Zd HL.out LVd)
     have HC:=Za (Zjz am al cm cl (Zl ts k).1 (Zl ts k).2 V1.drew (hmv.next LVd) (hcv.next LVd) (ZJ hweb) (HOK.out.2.2 k).1 (HOK.out.2.2 k).2)
     have HWB:=Za hweb
     have hol1:=HTD.out.lt
     have hwbs:W.heap.size<=V1.drew.heap.size:=HLD.out.size
     clear hmv hcv hVr LV LVd hweb
     have HSS:Hid (∀W',Below V1.drew.heap.size V1.drew W'->W'.cell? ⟨o,1,none⟩=some (.slice (some ⟨g,0,none⟩) ts.length ts.length)/\W'.cell? ⟨wr.heap.size,0,none⟩=some (.slice am (Zl ts k).1.length cm)/\W'.cell? ⟨wr.heap.size,1,none⟩=some (.slice al (Zl ts k).2.length cl)):=fun W' L'=>⟨(L'.cell (p:=⟨o,1,none⟩) hol1).trans hOV,(L'.cell (p:=⟨wr.heap.size,0,none⟩) hYl).trans y0,(L'.cell (p:=⟨wr.heap.size,1,none⟩) hYl).trans y1⟩
     obtain⟨ml,hml⟩:∃ml,(Zl ts k).1.length=ml:=⟨_,rfl⟩
     obtain⟨ll,hll⟩:∃ll,(Zl ts k).2.length=ll:=⟨_,rfl⟩
     have HID:=Za (And.intro hml hll)
     rw [hml,hll] at HC HSS hV
     rw [hml] at y0 c0
     rw [hll] at y1 c1
     clear hml hll hOV
     go_wp2_with fail
     clear hV c0 c1 y0 y1
     refine ZR (S:=fun w'=>w'.cell? ⟨o,1,none⟩=some (.slice (some ⟨g,0,none⟩) ts.length ts.length)/\w'.cell? ⟨wr.heap.size,0,none⟩=some (.slice am ml cm)/\w'.cell? ⟨wr.heap.size,1,none⟩=some (.slice al ll cl)) (fuel:=2)
      [0,1,2,3] _ rfl (by kernel_rfl) (by kernel_rfl) (by kernel_rfl) (by kernel_rfl) (by kernel_rfl) (by kernel_rfl) (by kernel_rfl) (HSS.out _ (Below.refl _ _)) (fun hS=>?_)
     iterate 4
      refine⟨_,rfl,?_⟩
      apply Exists.intro
      refine⟨Or.inl ⟨by rfl,fun w' hw'=>?_⟩,?_⟩
      · first
        | (go_simp;done)
        | (go_simp;with_reducible rfl)
      simp only [Act.put,List.setIfInBounds_toArray]
     refine Zc 4 (by kernel_rfl) rfl (fun K hK=>?_)
     go_simp
     refine HC.out.mono ?_
     rintro e w3 ⟨g3,gl3,rfl,ho3,L3⟩
     refine hK.out _ _ (HSS.out _ L3) (fun _=>?_)
     clear hK K
     refine Zc 5 (by kernel_rfl) rfl (fun K hK=>?_)
     go_simp
     refine hK.out _ _ (HSS.out _ L3) (fun _=>?_)
     clear hK K hS
     have hlen:=Za5 HWB.out
     obtain⟨-,-,hl60,hx60⟩:=ZaR HWB.out
     rw [<-HID.out.2] at ho3
     have hl3:=ho3.ow (ZJ HWB.out) hlen.symm (by omega) (fun i=>by have:=hx60 i;omega)
     have HST:=Za (HPD.out.put L3 (k:=k) hl3 (fun b hb=>hb.1))
     have hN:=HPD.out.next L3
     have f0:=hN.blk.frozen (k*2)
     have f1:=hN.blk.frozen (k*2+1)
     have e0:=(hN.cells k hlt).1
     have e1:=(hN.cells k hlt).2
     have hog':g≠o:=fun e=>hog e.symm
     rw [HID.out.1,HID.out.2] at HST
     have HE:Hid (Two ((w3.setCell ⟨g,k*2,none⟩ (.slice (some ⟨g3,0,none⟩) ml ml)).setCell ⟨g,k*2+1,none⟩ (.slice (some ⟨gl3,0,none⟩) ll ll)) o (.int .i64 d) (.slice (some ⟨g,0,none⟩) ts.length ts.length) 26/\Below W.heap.size W ((w3.setCell ⟨g,k*2,none⟩ (.slice (some ⟨g3,0,none⟩) ml ml)).setCell ⟨g,k*2+1,none⟩ (.slice (some ⟨gl3,0,none⟩) ll ll))):=
      ⟨((HTD.out.below L3).far hog' _).far hog' _,((Zd HLD.out L3).setCell (by show W.heap.size<=g;exact hg) _).setCell (by show W.heap.size<=g;exact hg) _⟩
     have HSN:Hid (∀i b,ZbO S k (Btw V1.drew.heap.size w3.heap.size) i b->W.heap.size<=b):=fun i b hb=>by
      unfold ZbO at hb
      by_cases e:i=k
      · rw [if_pos e] at hb;have:=hb.1;omega
      · rw [if_neg e] at hb;exact HSB.out i b hb
     clear ho3 L3 hN hl3 hlen hl60 hx60 HPD HTD HLD HC HSS
     refine wpAnyH_done (by kernel_rfl) ?_ _
     simp only [Exit.then]
     go_wp2_with fail
     refine NoPanic.normal ?_
     go_wp2_with fail
     go_roundg (ts.length-(k+1))
     case rel=>exact⟨k+1,_,_,_,by omega,Nat.le_refl _,by go_num,HST.out.as (fun i _=>by
      unfold updW
      by_cases e:i=k
      · rw [if_pos e,if_pos (by omega),e]
      · rw [if_neg e]
        show (if i<k then Zl ts i else ([],[]))=_
        by_cases e2:i<k
        · rw [if_pos e2,if_pos (by omega)]
        · rw [if_neg e2,if_neg (by omega)]),HSN.out,HE.out.1,HE.out.2⟩
     case measure=>omega
   · obtain rfl:k=ts.length:=by omega
     have hki:¬((ts.length:Int)<(ts.length:Int)):=by omega
     have tR:=HTR.out.below HL.out
     have r0:=tR.c0
     have r1:=tR.c1
     have rf0:=tR.frozen 0
     have rf1:=tR.frozen 1
     have o0:=HT.out.c0
     have o1:=HT.out.c1
     have t3:=(tR.set0 (.int .i64 d)).set1 (.slice (some ⟨g,0,none⟩) ts.length ts.length)
     have q0:=t3.c0
     have q1:=t3.c1
     have HF:=Za (HP.out.as (U:=Zl ts) (fun i hi'=>by rw [if_pos hi']))
     have hz:=HL.out.size
     have LE:Below w.heap.size w ((wr.setCell ⟨w.heap.size+1,0,none⟩ (.int .i64 d)).setCell ⟨w.heap.size+1,1,none⟩ (.slice (some ⟨g,0,none⟩) ts.length ts.length)):=((Zd HB.out HL.out).setCell (by show w.heap.size<=w.heap.size+1;omega) _).setCell (by show w.heap.size<=w.heap.size+1;omega) _
     have hft:∀b,FtW g ts.length S b->W.heap.size<=b/\b<wr.heap.size:=fun b hb=>⟨by rcases hb with rfl | ⟨i,_,hs⟩;exact hg;exact HSB.out i b hs,HF.out.ts.bnd b hb⟩
     have hsta:Sta (FtW g ts.length S) wr ((wr.setCell ⟨w.heap.size+1,0,none⟩ (.int .i64 d)).setCell ⟨w.heap.size+1,1,none⟩ (.slice (some ⟨g,0,none⟩) ts.length ts.length)):=
      ⟨by rw [Zb,Zb];exact Nat.le_refl _,fun b hb=>(Below.heap_setCell _ ⟨w.heap.size+1,1,none⟩ _ b (fun e=>by have e':b=w.heap.size+1:=e;have:=hft b hb;omega)).trans (Below.heap_setCell _ ⟨w.heap.size+1,0,none⟩ _ b (fun e=>by have e':b=w.heap.size+1:=e;have:=hft b hb;omega))⟩
     have hwz:=HSZ.out.2
     have HE:=Za (And.intro ((HF.out.sm hsta).tsr (base:=w.heap.size) (by omega) (fun i b hb=>by have:=HSB.out i b hb;omega)) LE)
     clear hVr tR t3 HF LE hft hsta HP HL HT HSB hz hwz
     go_wp2_with fail
     refine bodyPost_ret (v:=.agg #[.int .i64 d,.slice (some ⟨g,0,none⟩) ts.length ts.length]) (by simp [results,Tryz.results101,go_sem,q0,q1]) rfl ?_
     exact⟨_,rfl,⟨_,_,_,HE.out.1⟩,HE.out.2⟩
theorem Zkx(v:Bool)(aw:Option Addr)(cw:Nat)(d:Int)(ts:List Wb)(w:World)(hv:Zz v w aw ts)(hok:ZZ d ts=true)(hsm:ZaB ts):
 Calls Tryz.prog 101 #[.agg #[.int .i64 d,.slice aw ts.length cw]] w fun e w'=>∃vt,e=.returned (.agg #[.int .i64 d,vt])/\TsO true (Btw w.heap.size w'.heap.size) w' vt ts/\Below w.heap.size w w':=
 (Ze9 v aw cw d ts w hv hok hsm).mono (fun _ _ ⟨vt,e,⟨_,_,_,h⟩,L⟩=>⟨vt,e,h.out,L⟩)
theorem Zae{w:World}{q:Nat}{a b c d e a' b' c' d' e':Value}{t:TypeId}(h:w.heap[q]? =some (.cells #[a,b,c,d,e] t)):(((((w.setCell ⟨q,0,none⟩ a').setCell ⟨q,1,none⟩ b').setCell ⟨q,2,none⟩ c').setCell ⟨q,3,none⟩ d').setCell ⟨q,4,none⟩ e').heap[q]? =some (.cells #[a',b',c',d',e'] t):=by
 simp [World.setCell,Array.getElem?_modify,h]
theorem Zaf{w:World}{q b:Nat}{a' b' c' d' e':Value}(h:b≠q):(((((w.setCell ⟨q,0,none⟩ a').setCell ⟨q,1,none⟩ b').setCell ⟨q,2,none⟩ c').setCell ⟨q,3,none⟩ d').setCell ⟨q,4,none⟩ e').heap[b]? =w.heap[b]? :=by
 rw [Below.heap_setCell _ ⟨q,4,none⟩ _ b h,Below.heap_setCell _ ⟨q,3,none⟩ _ b h,Below.heap_setCell _ ⟨q,2,none⟩ _ b h,Below.heap_setCell _ ⟨q,1,none⟩ _ b h,Below.heap_setCell _ ⟨q,0,none⟩ _ b h]
theorem ZlM{base:Nat}{w:World}{g:Nat}{ms:List Mk}{G cc:Nat->Nat}{lo hi:Nat}(ho:Zag base w g ms.length ms G cc lo hi)(hm:Zn ms=true):
 Ow 170 171 (FtM g (ZaO ms G cc)) w (.slice (some ⟨g,0,none⟩) ms.length ms.length) (Zah ms)/\Zah ms<=300/\(∀b,FtM g (ZaO ms G cc) b->b=g\/lo<=b)/\(∀b,FtM g (ZaO ms G cc) b->b<w.heap.size)/\∀w',Sta (FtM g (ZaO ms G cc)) w w'->Zq w' (some ⟨g,0,none⟩) ms:=by
 have h60:=ZA hm
 have hmo:=ho.own (by unfold maxLen;omega)
 have hdl:=Zbb ms G cc
 have hdm:=ZbA ms G cc
 have hat:∀x∈ms,x.2.length<=4:=fun x hx'=>by
  obtain⟨i,hi',rfl⟩:=List.getElem_of_mem hx'
  have:=((ZG _ _).1 (ZM hm hi')).2.2.1
  have h4:=(Zat this).2
  simpa [mat,List.getD,hi'] using h4
 have o1:=ZdX hmo (by omega) (by rw [hdm];exact hat)
 rw [hdl,hdm] at o1
 refine⟨o1,Zc5 ms 60 4 h60 hat,fun b hb=>?_,fun b hb=>(Zb7 hmo b hb).2,fun w' hs=>?_⟩
 · rcases hb with rfl | ⟨i,hi',rfl⟩
   · exact Or.inl rfl
   · rw [hdl] at hi'
     rw [ZbF hi']
     exact Or.inr (ho.within i hi').1
 · have:=(ZcB hmo hs).view
   rw [hdm] at this
   exact this
def ZlL(base:Nat)(w:World)(g:Nat)(vt:Value)(ms:List Mk)(ts:List Wb):Prop:=
 ∃G cc lo F,Zag base w g ms.length ms G cc lo w.heap.size/\TsO true F w vt ts/\(∀b,F b->base<=b/\b<lo)/\¬F g
theorem Zf8(v:Bool)(am aw:Option Addr)(cm cw:Nat)(wd:Int)(ms:List Mk)(d:Int)(ts:List Wb)(nx:Int)(w:World)(hm:Zq w am ms)(hv:Zz v w aw ts)(hmb:Zn ms=true)(hok:ZZ d ts=true)(hsm:Z5 ms ts):
 Calls Tryz.prog 128 #[.agg #[.int .i64 wd,.slice am ms.length cm,.int .i64 d,.slice aw ts.length cw,.int .i64 nx]] w fun e w'=>∃g vt,e=.returned (.agg #[.int .i64 wd,.slice (some ⟨g,0,none⟩) ms.length ms.length,.int .i64 d,vt,.int .i64 nx])/\ZlL w.heap.size w' g vt ms ts/\Below w.heap.size w w':=by
 obtain⟨W1,hW1⟩:∃W,w.alloc (.cells #[.int .i64 wd,.slice am ms.length cm,.int .i64 d,.slice aw ts.length cw,.int .i64 nx] 52)=W:=⟨_,rfl⟩
 have hB1:Below w.heap.size w W1:=by rw [<-hW1];exact (Below.refl _ _).alloc (Nat.le_refl _) _
 have hI1:Z7 v W1 w.heap.size am aw cm cw wd ms d ts nx:=by rw [<-hW1];exact Z7.box hm hv
 obtain⟨W,hW⟩:∃W,W1.alloc (.cells #[.int .i64 0,.slice none 0 0,.int .i64 0,.slice none 0 0,.int .i64 0] 52)=W:=⟨_,rfl⟩
 have hB2:Below W1.heap.size W1 W:=by rw [<-hW];exact (Below.refl _ _).alloc (Nat.le_refl _) _
 have s1:W1.heap.size=w.heap.size+1:=by rw [<-hW1];simp
 have s2:W.heap.size=w.heap.size+2:=by rw [<-hW];simp [s1]
 have TR:W.heap[w.heap.size+1]? =some (.cells #[.int .i64 0,.slice none 0 0,.int .i64 0,.slice none 0 0,.int .i64 0] 52):=by rw [<-hW,<-s1];exact heap_alloc_new W1 _
 have hI:=hI1.below hB2
 have h60:=ZA hmb
 have hmk:∀w0:World,(Instr.makeSlice 44 (.int .i64 (ms.length:Int)) (.int .i64 (ms.length:Int))).run Tryz.prog w0=.ok (.slice (some ⟨w0.heap.size,0,none⟩) ms.length ms.length) (w0.alloc (.cells (madeCells #[.int .i64 0,.slice none 0 0] (ms.length*2)) 29)):=fun w0=>Zak (P:=Tryz.prog) 44 29 (.agg #[.int .i64 0,.slice none 0 0]) 2 32 Tryz.underlying44 Tryz.info29 .i64 .i64 ms.length (by omega) (by omega) w0
 have HB:=Za (Zd hB1 hB2)
 have HI:=Za hI
 have HMB:=Za hmb
 have HTR:=Za TR
 have HSZ:=Za (And.intro s1 s2)
 have HTC:Hid (∀W',Below W.heap.size W W'->Calls Tryz.prog 101 #[.agg #[.int .i64 d,.slice aw ts.length cw]] W' fun e w'=>∃vt,e=.returned (.agg #[.int .i64 d,vt])/\TsO true (Btw W'.heap.size w'.heap.size) w' vt ts/\Below W'.heap.size W' w'):=fun W' L'=>Zkx v aw cw d ts W' ((hI.below L').wv) hok hsm.2.1
 have HS:Hid (∀W',Below W.heap.size W W'->W'.cell? ⟨w.heap.size,0,none⟩=some (.int .i64 wd)/\W'.cell? ⟨w.heap.size,1,none⟩=some (.slice am ms.length cm)/\W'.cell? ⟨w.heap.size,2,none⟩=some (.int .i64 d)/\W'.cell? ⟨w.heap.size,3,none⟩=some (.slice aw ts.length cw)/\W'.cell? ⟨w.heap.size,4,none⟩=some (.int .i64 nx)):=fun W' L'=>⟨(hI.below L').c0,(hI.below L').c1,(hI.below L').c2,(hI.below L').c3,(hI.below L').c4⟩
 have BL:=Za ((Below.refl W.heap.size W).drew)
 have HWW:Hid ((w.alloc (.cells #[.int .i64 wd,.slice am ms.length cm,.int .i64 d,.slice aw ts.length cw,.int .i64 nx] 52)).alloc (.cells #[.int .i64 0,.slice none 0 0,.int .i64 0,.slice none 0 0,.int .i64 0] 52)=W):=by show _=_;rw [hW1,hW]
 have HSM:=Za hsm
 clear hm hv hB1 hI1 hB2 TR hI s1 s2 hW hW1 hok hsm h60 hmb
 go_enter Tryz.func128,Tryz.ntmps128
 go_upto_region 1 with fail
 rw [HWW.out]
 clear HWW
 go_cut [3] from 6 to 17 (fun v wx=>∃o g ta tc F,v=.pointer (some ⟨o,0,none⟩)/\wx.heap[o]? =some (.cells #[.int .i64 wd,.slice (some ⟨g,0,none⟩) ms.length ms.length,.int .i64 d,.slice ta ts.length tc,.int .i64 nx] 52)/\FB wx g (ms.length*2) ZaQ 29/\TsO true F wx (.slice ta ts.length tc) ts/\W.heap.size<=o/\W.heap.size<=g/\o≠g/\¬F g/\¬F o/\(∀b,F b->W.heap.size<=b)/\Below W.heap.size W wx)
 case first=>
  refine Zt (S:=fun W'=>Below W.heap.size W W') (fuel:=5) [0,1,2,3,4,6,7,9,10] (by kernel_rfl) (by kernel_rfl) (by kernel_rfl) (by kernel_rfl) BL.out (fun _=>?_)
  iterate 9 (refine⟨_,rfl,?_⟩;apply Exists.intro;refine⟨Or.inl ⟨by rfl,fun w' hw'=>?_⟩,?_⟩;(focus (obtain⟨e1,e2,e3,e4,e5⟩:=HS.out w' hw';first | (go_simp;done) | (go_simp;with_reducible rfl)));simp only [Act.put,List.getElem_toArray,List.getElem_cons_succ,List.getElem_cons_zero,List.setIfInBounds_toArray,List.set_cons_zero,List.set_cons_succ])
  obtain⟨wv0,hv0⟩:∃w0,W.drew=w0:=⟨_,rfl⟩
  have Bwv0:Below W.heap.size W wv0:=by rw [<-hv0];exact BL.out
  have s0:W.heap.size<=wv0.heap.size:=Bwv0.size
  rw [hv0]
  clear hv0
  refine Zfs 5 8 12 (by kernel_rfl) rfl rfl rfl (fun K hK=>?_) (fun K hK=>?_) (fun K hK=>?_)
  · go_simp
    obtain⟨wv1,hX⟩:∃w0,wv0.alloc (.cells (madeCells #[.int .i64 0,.slice none 0 0] (ms.length*2)) 29)=w0:=⟨_,rfl⟩
    have LX:Below wv0.heap.size wv0 wv1:=by rw [<-hX];exact (Below.refl _ _).alloc (Nat.le_refl _) _
    have swv1:wv0.heap.size<wv1.heap.size:=by rw [<-hX];simp
    have Fg:FB wv1 wv0.heap.size (ms.length*2) ZaQ 29:=by rw [<-hX];exact FB.madeM wv0 _ _
    have Bwv1:Below W.heap.size W wv1:=Zd Bwv0 LX
    obtain⟨g,hg⟩:∃q,wv0.heap.size=q:=⟨_,rfl⟩
    have hg1:wv0.heap.size<=g:=by omega
    have hg2:g<wv1.heap.size:=by omega
    rw [hX]
    rw [hg] at Fg ⊢
    refine hK.out _ _ Bwv1 (fun _=>?_)
    clear hK K hX LX hg
    refine ZD 8 12 (by kernel_rfl) rfl rfl (fun K hK=>?_) (fun K hK=>?_)
    · go_simp
      refine (HTC.out wv1 Bwv1).mono ?_
      rintro e wv2 ⟨vt,rfl,Ft,LX⟩
      obtain⟨ta,tc,rfl,-,-⟩:=Ft.view
      have swv2:wv1.heap.size<=wv2.heap.size:=LX.size
      replace Fg:=Fg.next LX
      have Bwv2:Below W.heap.size W wv2:=Zd Bwv1 LX
      obtain⟨F,hF⟩:∃F,Btw wv1.heap.size wv2.heap.size=F:=⟨_,rfl⟩
      have hF1:∀b,F b->wv1.heap.size<=b/\b<wv2.heap.size:=fun b hb=>by rw [<-hF] at hb;exact hb
      rw [hF] at Ft
      refine hK.out _ _ Bwv2 (fun _=>?_)
      clear hK K LX hF
      refine Zo 2 [11] (by kernel_rfl) (by kernel_rfl) (by kernel_rfl) Bwv2 ?_
      iterate 1
       refine⟨_,rfl,?_⟩
       apply Exists.intro
       refine⟨Or.inl ⟨by rfl,fun w' hw'=>?_⟩,?_⟩
       · first
         | (go_simp;done)
         | (go_simp;with_reducible rfl)
       simp only [Act.put,List.getElem_toArray,List.getElem_cons_succ,List.getElem_cons_zero,List.setIfInBounds_toArray,List.set_cons_zero,List.set_cons_succ]
      refine Zc 12 (by kernel_rfl) rfl (fun K hK=>?_)
      go_simp
      refine hK.out _ _ (Bwv2.alloc Bwv2.size _) (fun _=>?_)
      clear hK K
      refine Zc 13 (by kernel_rfl) rfl (fun K hK=>?_)
      go_simp
      obtain⟨wz,hwz⟩:∃wz,wv2.alloc (.cells #[.int .i64 wd,.slice (some ⟨g,0,none⟩) ms.length ms.length,.int .i64 d,.slice ta ts.length tc,.int .i64 nx] 52)=wz:=⟨_,rfl⟩
      have LZ:Below wv2.heap.size wv2 wz:=by rw [<-hwz];exact (Below.refl _ _).alloc (Nat.le_refl _) _
      have TZ:wz.heap[wv2.heap.size]? =some (.cells #[.int .i64 wd,.slice (some ⟨g,0,none⟩) ms.length ms.length,.int .i64 d,.slice ta ts.length tc,.int .i64 nx] 52):=by rw [<-hwz];exact heap_alloc_new wv2 _
      have hgl:=Fg.lt
      rw [hwz]
      refine hK.out _ _ (Zd Bwv2 LZ) (fun _=>?_)
      clear hK K hwz
      refine wpAnyH_done (by kernel_rfl) ?_ _
      refine NoPanic.normal ?_
      try simp only [Exit.then]
      go_wp2_with fail
      go_meet
      exact⟨wv2.heap.size,g,ta,tc,F,rfl,TZ,Fg.next LZ,Ft.next LZ,by have:=Bwv2.size;omega,by omega,by omega,fun hb=>by have:=hF1 _ hb;omega,fun hb=>by have:=Ft.bnd _ hb;omega,fun b hb=>by have:=hF1 b hb;omega,Zd Bwv2 LZ⟩
    · go_simp
      obtain⟨wv4,hX⟩:∃w0,wv1.alloc (.cells #[.int .i64 0,.slice none 0 0,.int .i64 0,.slice none 0 0,.int .i64 0] 52)=w0:=⟨_,rfl⟩
      have LX:Below wv1.heap.size wv1 wv4:=by rw [<-hX];exact (Below.refl _ _).alloc (Nat.le_refl _) _
      have swv4:wv1.heap.size<wv4.heap.size:=by rw [<-hX];simp
      have Fo:wv4.heap[wv1.heap.size]? =some (.cells #[.int .i64 0,.slice none 0 0,.int .i64 0,.slice none 0 0,.int .i64 0] 52):=by rw [<-hX];exact heap_alloc_new wv1 _
      replace Fg:=Fg.next LX
      have Bwv4:Below W.heap.size W wv4:=Zd Bwv1 LX
      obtain⟨o,ho⟩:∃q,wv1.heap.size=q:=⟨_,rfl⟩
      have ho1:wv1.heap.size<=o:=by omega
      have ho2:o<wv4.heap.size:=by omega
      have hol:o<wv4.heap.size:=ho2
      rw [hX]
      rw [ho] at Fo ⊢
      refine hK.out _ _ Bwv4 (fun _=>?_)
      clear hK K hX LX ho
      refine Zc 8 (by kernel_rfl) rfl (fun K hK=>?_)
      go_simp
      refine (HTC.out wv4 Bwv4).mono ?_
      rintro e wv5 ⟨vt,rfl,Ft,LX⟩
      obtain⟨ta,tc,rfl,-,-⟩:=Ft.view
      have swv5:wv4.heap.size<=wv5.heap.size:=LX.size
      replace Fg:=Fg.next LX
      replace Fo:=(LX.block _ hol).trans Fo
      replace hol:=Nat.lt_of_lt_of_le hol LX.size
      have Bwv5:Below W.heap.size W wv5:=Zd Bwv4 LX
      obtain⟨F,hF⟩:∃F,Btw wv4.heap.size wv5.heap.size=F:=⟨_,rfl⟩
      have hF1:∀b,F b->wv4.heap.size<=b/\b<wv5.heap.size:=fun b hb=>by rw [<-hF] at hb;exact hb
      rw [hF] at Ft
      refine hK.out _ _ Bwv5 (fun _=>?_)
      clear hK K LX hF
      refine Zo 1 [11] (by kernel_rfl) (by kernel_rfl) (by kernel_rfl) Bwv5 ?_
      iterate 1
       refine⟨_,rfl,?_⟩
       apply Exists.intro
       refine⟨Or.inl ⟨by rfl,fun w' hw'=>?_⟩,?_⟩
       · first
         | (go_simp;done)
         | (go_simp;with_reducible rfl)
       simp only [Act.put,List.getElem_toArray,List.getElem_cons_succ,List.getElem_cons_zero,List.setIfInBounds_toArray,List.set_cons_zero,List.set_cons_succ]
      obtain⟨x0,x1,x2,x3,x4,xf,-⟩:=Ze Fo
      have xf0:=xf 0
      have xf1:=xf 1
      have xf2:=xf 2
      have xf3:=xf 3
      have xf4:=xf 4
      have hgl1:=Fg.lt
      refine Zc 13 (by kernel_rfl) rfl (fun K hK=>?_)
      go_simp
      obtain⟨wz,hwz⟩:∃wz,((((wv5.setCell ⟨o,0,none⟩ (.int .i64 wd)).setCell ⟨o,1,none⟩ (.slice (some ⟨g,0,none⟩) ms.length ms.length)).setCell ⟨o,2,none⟩ (.int .i64 d)).setCell ⟨o,3,none⟩ (.slice ta ts.length tc)).setCell ⟨o,4,none⟩ (.int .i64 nx)=wz:=⟨_,rfl⟩
      have TZ:wz.heap[o]? =some (.cells #[.int .i64 wd,.slice (some ⟨g,0,none⟩) ms.length ms.length,.int .i64 d,.slice ta ts.length tc,.int .i64 nx] 52):=by rw [<-hwz];exact Zae Fo
      have far:∀b,b≠o->wz.heap[b]? =wv5.heap[b]? :=fun b hb=>by rw [<-hwz];exact Zaf hb
      have hsz:wz.heap.size=wv5.heap.size:=by rw [<-hwz];simp [World.setCell]
      have hog:g≠o:=by omega
      have hof:¬F o:=fun hb=>by have:=hF1 _ hb;omega
      have Fg2:FB wz g (ms.length*2) ZaQ 29:=Fg.same (far g hog)
      have Ft2:=Ft.sm (w':=wz) ⟨by omega,fun b hb=>far b (fun e=>hof (e ▸ hb))⟩
      have BZ:Below W.heap.size W wz:=by
       have ho:W.heap.size<=o:=by omega
       rw [<-hwz];exact ((((Bwv5.setCell (p:=⟨o,0,none⟩) ho _).setCell (p:=⟨o,1,none⟩) ho _).setCell (p:=⟨o,2,none⟩) ho _).setCell (p:=⟨o,3,none⟩) ho _).setCell (p:=⟨o,4,none⟩) ho _
      rw [hwz]
      refine hK.out _ _ BZ (fun _=>?_)
      clear hK K hwz x0 x1 x2 x3 x4 xf xf0 xf1 xf2 xf3 xf4
      refine wpAnyH_done (by kernel_rfl) ?_ _
      refine NoPanic.normal ?_
      try simp only [Exit.then]
      go_wp2_with fail
      go_meet
      exact⟨o,g,ta,tc,F,rfl,TZ,Fg2,Ft2,by omega,by omega,hog.symm,fun hb=>by have:=hF1 _ hb;omega,hof,fun b hb=>by have:=hF1 b hb;omega,BZ⟩
  · go_simp
    refine (HTC.out wv0 Bwv0).mono ?_
    rintro e wv6 ⟨vt,rfl,Ft,LX⟩
    obtain⟨ta,tc,rfl,-,-⟩:=Ft.view
    have swv6:wv0.heap.size<=wv6.heap.size:=LX.size
    have Bwv6:Below W.heap.size W wv6:=Zd Bwv0 LX
    obtain⟨F,hF⟩:∃F,Btw wv0.heap.size wv6.heap.size=F:=⟨_,rfl⟩
    have hF1:∀b,F b->wv0.heap.size<=b/\b<wv6.heap.size:=fun b hb=>by rw [<-hF] at hb;exact hb
    rw [hF] at Ft
    refine hK.out _ _ Bwv6 (fun _=>?_)
    clear hK K LX hF
    refine ZD 5 12 (by kernel_rfl) rfl rfl (fun K hK=>?_) (fun K hK=>?_)
    · go_simp
      obtain⟨wv7,hX⟩:∃w0,wv6.alloc (.cells (madeCells #[.int .i64 0,.slice none 0 0] (ms.length*2)) 29)=w0:=⟨_,rfl⟩
      have LX:Below wv6.heap.size wv6 wv7:=by rw [<-hX];exact (Below.refl _ _).alloc (Nat.le_refl _) _
      have swv7:wv6.heap.size<wv7.heap.size:=by rw [<-hX];simp
      have Fg:FB wv7 wv6.heap.size (ms.length*2) ZaQ 29:=by rw [<-hX];exact FB.madeM wv6 _ _
      replace Ft:=Ft.next LX
      have Bwv7:Below W.heap.size W wv7:=Zd Bwv6 LX
      obtain⟨g,hg⟩:∃q,wv6.heap.size=q:=⟨_,rfl⟩
      have hg1:wv6.heap.size<=g:=by omega
      have hg2:g<wv7.heap.size:=by omega
      rw [hX]
      rw [hg] at Fg ⊢
      refine hK.out _ _ Bwv7 (fun _=>?_)
      clear hK K hX LX hg
      refine Zo 2 [11] (by kernel_rfl) (by kernel_rfl) (by kernel_rfl) Bwv7 ?_
      iterate 1
       refine⟨_,rfl,?_⟩
       apply Exists.intro
       refine⟨Or.inl ⟨by rfl,fun w' hw'=>?_⟩,?_⟩
       · first
         | (go_simp;done)
         | (go_simp;with_reducible rfl)
       simp only [Act.put,List.getElem_toArray,List.getElem_cons_succ,List.getElem_cons_zero,List.setIfInBounds_toArray,List.set_cons_zero,List.set_cons_succ]
      refine Zc 12 (by kernel_rfl) rfl (fun K hK=>?_)
      go_simp
      refine hK.out _ _ (Bwv7.alloc Bwv7.size _) (fun _=>?_)
      clear hK K
      refine Zc 13 (by kernel_rfl) rfl (fun K hK=>?_)
      go_simp
      obtain⟨wz,hwz⟩:∃wz,wv7.alloc (.cells #[.int .i64 wd,.slice (some ⟨g,0,none⟩) ms.length ms.length,.int .i64 d,.slice ta ts.length tc,.int .i64 nx] 52)=wz:=⟨_,rfl⟩
      have LZ:Below wv7.heap.size wv7 wz:=by rw [<-hwz];exact (Below.refl _ _).alloc (Nat.le_refl _) _
      have TZ:wz.heap[wv7.heap.size]? =some (.cells #[.int .i64 wd,.slice (some ⟨g,0,none⟩) ms.length ms.length,.int .i64 d,.slice ta ts.length tc,.int .i64 nx] 52):=by rw [<-hwz];exact heap_alloc_new wv7 _
      have hgl:=Fg.lt
      rw [hwz]
      refine hK.out _ _ (Zd Bwv7 LZ) (fun _=>?_)
      clear hK K hwz
      refine wpAnyH_done (by kernel_rfl) ?_ _
      refine NoPanic.normal ?_
      try simp only [Exit.then]
      go_wp2_with fail
      go_meet
      exact⟨wv7.heap.size,g,ta,tc,F,rfl,TZ,Fg.next LZ,Ft.next LZ,by have:=Bwv7.size;omega,by omega,by omega,fun hb=>by have:=hF1 _ hb;omega,fun hb=>by have:=Ft.bnd _ hb;omega,fun b hb=>by have:=hF1 b hb;omega,Zd Bwv7 LZ⟩
    · go_simp
      obtain⟨wv9,hX⟩:∃w0,wv6.alloc (.cells #[.int .i64 0,.slice none 0 0,.int .i64 0,.slice none 0 0,.int .i64 0] 52)=w0:=⟨_,rfl⟩
      have LX:Below wv6.heap.size wv6 wv9:=by rw [<-hX];exact (Below.refl _ _).alloc (Nat.le_refl _) _
      have swv9:wv6.heap.size<wv9.heap.size:=by rw [<-hX];simp
      have Fo:wv9.heap[wv6.heap.size]? =some (.cells #[.int .i64 0,.slice none 0 0,.int .i64 0,.slice none 0 0,.int .i64 0] 52):=by rw [<-hX];exact heap_alloc_new wv6 _
      replace Ft:=Ft.next LX
      have Bwv9:Below W.heap.size W wv9:=Zd Bwv6 LX
      obtain⟨o,ho⟩:∃q,wv6.heap.size=q:=⟨_,rfl⟩
      have ho1:wv6.heap.size<=o:=by omega
      have ho2:o<wv9.heap.size:=by omega
      have hol:o<wv9.heap.size:=ho2
      rw [hX]
      rw [ho] at Fo ⊢
      refine hK.out _ _ Bwv9 (fun _=>?_)
      clear hK K hX LX ho
      refine Zc 5 (by kernel_rfl) rfl (fun K hK=>?_)
      go_simp
      obtain⟨wv10,hX⟩:∃w0,wv9.alloc (.cells (madeCells #[.int .i64 0,.slice none 0 0] (ms.length*2)) 29)=w0:=⟨_,rfl⟩
      have LX:Below wv9.heap.size wv9 wv10:=by rw [<-hX];exact (Below.refl _ _).alloc (Nat.le_refl _) _
      have swv10:wv9.heap.size<wv10.heap.size:=by rw [<-hX];simp
      have Fg:FB wv10 wv9.heap.size (ms.length*2) ZaQ 29:=by rw [<-hX];exact FB.madeM wv9 _ _
      replace Fo:=(LX.block _ hol).trans Fo
      replace hol:=Nat.lt_of_lt_of_le hol LX.size
      replace Ft:=Ft.next LX
      have Bwv10:Below W.heap.size W wv10:=Zd Bwv9 LX
      obtain⟨g,hg⟩:∃q,wv9.heap.size=q:=⟨_,rfl⟩
      have hg1:wv9.heap.size<=g:=by omega
      have hg2:g<wv10.heap.size:=by omega
      rw [hX]
      rw [hg] at Fg ⊢
      refine hK.out _ _ Bwv10 (fun _=>?_)
      clear hK K hX LX hg
      refine Zo 1 [11] (by kernel_rfl) (by kernel_rfl) (by kernel_rfl) Bwv10 ?_
      iterate 1
       refine⟨_,rfl,?_⟩
       apply Exists.intro
       refine⟨Or.inl ⟨by rfl,fun w' hw'=>?_⟩,?_⟩
       · first
         | (go_simp;done)
         | (go_simp;with_reducible rfl)
       simp only [Act.put,List.getElem_toArray,List.getElem_cons_succ,List.getElem_cons_zero,List.setIfInBounds_toArray,List.set_cons_zero,List.set_cons_succ]
      obtain⟨x0,x1,x2,x3,x4,xf,-⟩:=Ze Fo
      have xf0:=xf 0
      have xf1:=xf 1
      have xf2:=xf 2
      have xf3:=xf 3
      have xf4:=xf 4
      have hgl1:=Fg.lt
      refine Zc 13 (by kernel_rfl) rfl (fun K hK=>?_)
      go_simp
      obtain⟨wz,hwz⟩:∃wz,((((wv10.setCell ⟨o,0,none⟩ (.int .i64 wd)).setCell ⟨o,1,none⟩ (.slice (some ⟨g,0,none⟩) ms.length ms.length)).setCell ⟨o,2,none⟩ (.int .i64 d)).setCell ⟨o,3,none⟩ (.slice ta ts.length tc)).setCell ⟨o,4,none⟩ (.int .i64 nx)=wz:=⟨_,rfl⟩
      have TZ:wz.heap[o]? =some (.cells #[.int .i64 wd,.slice (some ⟨g,0,none⟩) ms.length ms.length,.int .i64 d,.slice ta ts.length tc,.int .i64 nx] 52):=by rw [<-hwz];exact Zae Fo
      have far:∀b,b≠o->wz.heap[b]? =wv10.heap[b]? :=fun b hb=>by rw [<-hwz];exact Zaf hb
      have hsz:wz.heap.size=wv10.heap.size:=by rw [<-hwz];simp [World.setCell]
      have hog:g≠o:=by omega
      have hof:¬F o:=fun hb=>by have:=hF1 _ hb;omega
      have Fg2:FB wz g (ms.length*2) ZaQ 29:=Fg.same (far g hog)
      have Ft2:=Ft.sm (w':=wz) ⟨by omega,fun b hb=>far b (fun e=>hof (e ▸ hb))⟩
      have BZ:Below W.heap.size W wz:=by
       have ho:W.heap.size<=o:=by omega
       rw [<-hwz];exact ((((Bwv10.setCell (p:=⟨o,0,none⟩) ho _).setCell (p:=⟨o,1,none⟩) ho _).setCell (p:=⟨o,2,none⟩) ho _).setCell (p:=⟨o,3,none⟩) ho _).setCell (p:=⟨o,4,none⟩) ho _
      rw [hwz]
      refine hK.out _ _ BZ (fun _=>?_)
      clear hK K hwz x0 x1 x2 x3 x4 xf xf0 xf1 xf2 xf3 xf4
      refine wpAnyH_done (by kernel_rfl) ?_ _
      refine NoPanic.normal ?_
      try simp only [Exit.then]
      go_wp2_with fail
      go_meet
      exact⟨o,g,ta,tc,F,rfl,TZ,Fg2,Ft2,by omega,by omega,hog.symm,fun hb=>by have:=hF1 _ hb;omega,hof,fun b hb=>by have:=hF1 b hb;omega,BZ⟩
  · go_simp
    obtain⟨wv11,hX⟩:∃w0,wv0.alloc (.cells #[.int .i64 0,.slice none 0 0,.int .i64 0,.slice none 0 0,.int .i64 0] 52)=w0:=⟨_,rfl⟩
    have LX:Below wv0.heap.size wv0 wv11:=by rw [<-hX];exact (Below.refl _ _).alloc (Nat.le_refl _) _
    have swv11:wv0.heap.size<wv11.heap.size:=by rw [<-hX];simp
    have Fo:wv11.heap[wv0.heap.size]? =some (.cells #[.int .i64 0,.slice none 0 0,.int .i64 0,.slice none 0 0,.int .i64 0] 52):=by rw [<-hX];exact heap_alloc_new wv0 _
    have Bwv11:Below W.heap.size W wv11:=Zd Bwv0 LX
    obtain⟨o,ho⟩:∃q,wv0.heap.size=q:=⟨_,rfl⟩
    have ho1:wv0.heap.size<=o:=by omega
    have ho2:o<wv11.heap.size:=by omega
    have hol:o<wv11.heap.size:=ho2
    rw [hX]
    rw [ho] at Fo ⊢
    refine hK.out _ _ Bwv11 (fun _=>?_)
    clear hK K hX LX ho
    refine ZD 5 8 (by kernel_rfl) rfl rfl (fun K hK=>?_) (fun K hK=>?_)
    · go_simp
      obtain⟨wv12,hX⟩:∃w0,wv11.alloc (.cells (madeCells #[.int .i64 0,.slice none 0 0] (ms.length*2)) 29)=w0:=⟨_,rfl⟩
      have LX:Below wv11.heap.size wv11 wv12:=by rw [<-hX];exact (Below.refl _ _).alloc (Nat.le_refl _) _
      have swv12:wv11.heap.size<wv12.heap.size:=by rw [<-hX];simp
      have Fg:FB wv12 wv11.heap.size (ms.length*2) ZaQ 29:=by rw [<-hX];exact FB.madeM wv11 _ _
      replace Fo:=(LX.block _ hol).trans Fo
      replace hol:=Nat.lt_of_lt_of_le hol LX.size
      have Bwv12:Below W.heap.size W wv12:=Zd Bwv11 LX
      obtain⟨g,hg⟩:∃q,wv11.heap.size=q:=⟨_,rfl⟩
      have hg1:wv11.heap.size<=g:=by omega
      have hg2:g<wv12.heap.size:=by omega
      rw [hX]
      rw [hg] at Fg ⊢
      refine hK.out _ _ Bwv12 (fun _=>?_)
      clear hK K hX LX hg
      refine Zc 8 (by kernel_rfl) rfl (fun K hK=>?_)
      go_simp
      refine (HTC.out wv12 Bwv12).mono ?_
      rintro e wv13 ⟨vt,rfl,Ft,LX⟩
      obtain⟨ta,tc,rfl,-,-⟩:=Ft.view
      have swv13:wv12.heap.size<=wv13.heap.size:=LX.size
      replace Fg:=Fg.next LX
      replace Fo:=(LX.block _ hol).trans Fo
      replace hol:=Nat.lt_of_lt_of_le hol LX.size
      have Bwv13:Below W.heap.size W wv13:=Zd Bwv12 LX
      obtain⟨F,hF⟩:∃F,Btw wv12.heap.size wv13.heap.size=F:=⟨_,rfl⟩
      have hF1:∀b,F b->wv12.heap.size<=b/\b<wv13.heap.size:=fun b hb=>by rw [<-hF] at hb;exact hb
      rw [hF] at Ft
      refine hK.out _ _ Bwv13 (fun _=>?_)
      clear hK K LX hF
      refine Zo 1 [11] (by kernel_rfl) (by kernel_rfl) (by kernel_rfl) Bwv13 ?_
      iterate 1
       refine⟨_,rfl,?_⟩
       apply Exists.intro
       refine⟨Or.inl ⟨by rfl,fun w' hw'=>?_⟩,?_⟩
       · first
         | (go_simp;done)
         | (go_simp;with_reducible rfl)
       simp only [Act.put,List.getElem_toArray,List.getElem_cons_succ,List.getElem_cons_zero,List.setIfInBounds_toArray,List.set_cons_zero,List.set_cons_succ]
      obtain⟨x0,x1,x2,x3,x4,xf,-⟩:=Ze Fo
      have xf0:=xf 0
      have xf1:=xf 1
      have xf2:=xf 2
      have xf3:=xf 3
      have xf4:=xf 4
      have hgl1:=Fg.lt
      refine Zc 13 (by kernel_rfl) rfl (fun K hK=>?_)
      go_simp
      obtain⟨wz,hwz⟩:∃wz,((((wv13.setCell ⟨o,0,none⟩ (.int .i64 wd)).setCell ⟨o,1,none⟩ (.slice (some ⟨g,0,none⟩) ms.length ms.length)).setCell ⟨o,2,none⟩ (.int .i64 d)).setCell ⟨o,3,none⟩ (.slice ta ts.length tc)).setCell ⟨o,4,none⟩ (.int .i64 nx)=wz:=⟨_,rfl⟩
      have TZ:wz.heap[o]? =some (.cells #[.int .i64 wd,.slice (some ⟨g,0,none⟩) ms.length ms.length,.int .i64 d,.slice ta ts.length tc,.int .i64 nx] 52):=by rw [<-hwz];exact Zae Fo
      have far:∀b,b≠o->wz.heap[b]? =wv13.heap[b]? :=fun b hb=>by rw [<-hwz];exact Zaf hb
      have hsz:wz.heap.size=wv13.heap.size:=by rw [<-hwz];simp [World.setCell]
      have hog:g≠o:=by omega
      have hof:¬F o:=fun hb=>by have:=hF1 _ hb;omega
      have Fg2:FB wz g (ms.length*2) ZaQ 29:=Fg.same (far g hog)
      have Ft2:=Ft.sm (w':=wz) ⟨by omega,fun b hb=>far b (fun e=>hof (e ▸ hb))⟩
      have BZ:Below W.heap.size W wz:=by
       have ho:W.heap.size<=o:=by omega
       rw [<-hwz];exact ((((Bwv13.setCell (p:=⟨o,0,none⟩) ho _).setCell (p:=⟨o,1,none⟩) ho _).setCell (p:=⟨o,2,none⟩) ho _).setCell (p:=⟨o,3,none⟩) ho _).setCell (p:=⟨o,4,none⟩) ho _
      rw [hwz]
      refine hK.out _ _ BZ (fun _=>?_)
      clear hK K hwz x0 x1 x2 x3 x4 xf xf0 xf1 xf2 xf3 xf4
      refine wpAnyH_done (by kernel_rfl) ?_ _
      refine NoPanic.normal ?_
      try simp only [Exit.then]
      go_wp2_with fail
      go_meet
      exact⟨o,g,ta,tc,F,rfl,TZ,Fg2,Ft2,by omega,by omega,hog.symm,fun hb=>by have:=hF1 _ hb;omega,hof,fun b hb=>by have:=hF1 b hb;omega,BZ⟩
    · go_simp
      refine (HTC.out wv11 Bwv11).mono ?_
      rintro e wv14 ⟨vt,rfl,Ft,LX⟩
      obtain⟨ta,tc,rfl,-,-⟩:=Ft.view
      have swv14:wv11.heap.size<=wv14.heap.size:=LX.size
      replace Fo:=(LX.block _ hol).trans Fo
      replace hol:=Nat.lt_of_lt_of_le hol LX.size
      have Bwv14:Below W.heap.size W wv14:=Zd Bwv11 LX
      obtain⟨F,hF⟩:∃F,Btw wv11.heap.size wv14.heap.size=F:=⟨_,rfl⟩
      have hF1:∀b,F b->wv11.heap.size<=b/\b<wv14.heap.size:=fun b hb=>by rw [<-hF] at hb;exact hb
      rw [hF] at Ft
      refine hK.out _ _ Bwv14 (fun _=>?_)
      clear hK K LX hF
      refine Zc 5 (by kernel_rfl) rfl (fun K hK=>?_)
      go_simp
      obtain⟨wv15,hX⟩:∃w0,wv14.alloc (.cells (madeCells #[.int .i64 0,.slice none 0 0] (ms.length*2)) 29)=w0:=⟨_,rfl⟩
      have LX:Below wv14.heap.size wv14 wv15:=by rw [<-hX];exact (Below.refl _ _).alloc (Nat.le_refl _) _
      have swv15:wv14.heap.size<wv15.heap.size:=by rw [<-hX];simp
      have Fg:FB wv15 wv14.heap.size (ms.length*2) ZaQ 29:=by rw [<-hX];exact FB.madeM wv14 _ _
      replace Fo:=(LX.block _ hol).trans Fo
      replace hol:=Nat.lt_of_lt_of_le hol LX.size
      replace Ft:=Ft.next LX
      have Bwv15:Below W.heap.size W wv15:=Zd Bwv14 LX
      obtain⟨g,hg⟩:∃q,wv14.heap.size=q:=⟨_,rfl⟩
      have hg1:wv14.heap.size<=g:=by omega
      have hg2:g<wv15.heap.size:=by omega
      rw [hX]
      rw [hg] at Fg ⊢
      refine hK.out _ _ Bwv15 (fun _=>?_)
      clear hK K hX LX hg
      refine Zo 1 [11] (by kernel_rfl) (by kernel_rfl) (by kernel_rfl) Bwv15 ?_
      iterate 1
       refine⟨_,rfl,?_⟩
       apply Exists.intro
       refine⟨Or.inl ⟨by rfl,fun w' hw'=>?_⟩,?_⟩
       · first
         | (go_simp;done)
         | (go_simp;with_reducible rfl)
       simp only [Act.put,List.getElem_toArray,List.getElem_cons_succ,List.getElem_cons_zero,List.setIfInBounds_toArray,List.set_cons_zero,List.set_cons_succ]
      obtain⟨x0,x1,x2,x3,x4,xf,-⟩:=Ze Fo
      have xf0:=xf 0
      have xf1:=xf 1
      have xf2:=xf 2
      have xf3:=xf 3
      have xf4:=xf 4
      have hgl1:=Fg.lt
      refine Zc 13 (by kernel_rfl) rfl (fun K hK=>?_)
      go_simp
      obtain⟨wz,hwz⟩:∃wz,((((wv15.setCell ⟨o,0,none⟩ (.int .i64 wd)).setCell ⟨o,1,none⟩ (.slice (some ⟨g,0,none⟩) ms.length ms.length)).setCell ⟨o,2,none⟩ (.int .i64 d)).setCell ⟨o,3,none⟩ (.slice ta ts.length tc)).setCell ⟨o,4,none⟩ (.int .i64 nx)=wz:=⟨_,rfl⟩
      have TZ:wz.heap[o]? =some (.cells #[.int .i64 wd,.slice (some ⟨g,0,none⟩) ms.length ms.length,.int .i64 d,.slice ta ts.length tc,.int .i64 nx] 52):=by rw [<-hwz];exact Zae Fo
      have far:∀b,b≠o->wz.heap[b]? =wv15.heap[b]? :=fun b hb=>by rw [<-hwz];exact Zaf hb
      have hsz:wz.heap.size=wv15.heap.size:=by rw [<-hwz];simp [World.setCell]
      have hog:g≠o:=by omega
      have hof:¬F o:=fun hb=>by have:=hF1 _ hb;omega
      have Fg2:FB wz g (ms.length*2) ZaQ 29:=Fg.same (far g hog)
      have Ft2:=Ft.sm (w':=wz) ⟨by omega,fun b hb=>far b (fun e=>hof (e ▸ hb))⟩
      have BZ:Below W.heap.size W wz:=by
       have ho:W.heap.size<=o:=by omega
       rw [<-hwz];exact ((((Bwv15.setCell (p:=⟨o,0,none⟩) ho _).setCell (p:=⟨o,1,none⟩) ho _).setCell (p:=⟨o,2,none⟩) ho _).setCell (p:=⟨o,3,none⟩) ho _).setCell (p:=⟨o,4,none⟩) ho _
      rw [hwz]
      refine hK.out _ _ BZ (fun _=>?_)
      clear hK K hwz x0 x1 x2 x3 x4 xf xf0 xf1 xf2 xf3 xf4
      refine wpAnyH_done (by kernel_rfl) ?_ _
      refine NoPanic.normal ?_
      try simp only [Exit.then]
      go_wp2_with fail
      go_meet
      exact⟨o,g,ta,tc,F,rfl,TZ,Fg2,Ft2,by omega,by omega,hog.symm,fun hb=>by have:=hF1 _ hb;omega,hof,fun b hb=>by have:=hF1 b hb;omega,BZ⟩
 case rest=>
  obtain⟨o,g,ta,tc,F,rfl,hTo,hFg,hFt,ho,hg,hog,hFng,hFno,hFW,LW⟩:=hcut
  generalize hwc:wc=w1 at *
  clear hwc wc hmk BL HS
  have HLW:=Za LW
  have hI1:=HI.out.below LW
  have k0:=hI1.c1
  have HLO:=Za (Zag.start (base:=w.heap.size) (ms:=ms) hFg (by have:=HSZ.out;omega))
  have HTO:=Za hTo
  have HFT:=Za hFt
  have HF1:Hid (∀b,F b->W.heap.size<=b/\b<w1.heap.size):=fun b hb=>⟨hFW b hb,hFt.bnd b hb⟩
  have hWs:=HSZ.out.2
  have hol:=(Ze hTo).2.2.2.2.2.2
  have HNF:=Za (And.intro hFng hFno)
  clear hI1 hTo hFg LW hFt hFng hFno hFW
  go_wp2_with fail
  clear k0
  go_loopg [21] ms.length (fun gk iv wr=>∃(k:Nat) (G cc:Nat->Nat) (hi:Nat),k<=ms.length/\ms.length-k<=gk/\iv=.int .i64 k/\Zag w.heap.size wr g k ms G cc w1.heap.size hi/\w1.heap.size<=wr.heap.size/\TsO true F wr (.slice ta ts.length tc) ts/\wr.heap[o]? =some (.cells #[.int .i64 wd,.slice (some ⟨g,0,none⟩) ms.length ms.length,.int .i64 d,.slice ta ts.length tc,.int .i64 nx] 52)/\Below W.heap.size W wr)
  case atStart=>exact⟨0,_,_,_,Nat.zero_le _,Nat.sub_le _ _,rfl,HLO.out,Nat.le_refl _,HFT.out,HTO.out,HLW.out⟩
  case round=>
   obtain⟨k,G,cc,hi,hk,hgk,rfl,hp,hsz,hft,hto,L⟩:=hrel
   have HP:=Za hp
   have HL:=Za L
   have HF:=Za hft
   have HT:=Za hto
   have hIr:=HI.out.below L
   clear hp L hft hto
   by_cases hlt:k<ms.length
   · obtain⟨mb,mo,rfl,hmb2,hms⟩:=ZbX hIr.mv (by omega)
     have hms':=hms k hlt
     obtain⟨c0,pa,pc,c1,hpv⟩:=hms'
     have hi0:(0:Int)<=(k:Int):=Int.natCast_nonneg _
     have hi1:(k:Int)<(ms.length:Int):=by omega
     have hk60:k<61:=by have:=ZA HMB.out;omega
     have hok:=(ZG _ _).1 (ZM HMB.out hlt)
     obtain⟨V1,hV⟩:∃V1,wr.alloc (.cells #[.int .i64 (mid ms k),.slice pa (mat ms k).length pc] 29)=V1:=⟨_,rfl⟩
     have LV:Below wr.heap.size wr V1:=by rw [<-hV];exact (Below.refl _ _).alloc (Nat.le_refl _) _
     have hYl:wr.heap.size<V1.heap.size:=by rw [<-hV];simp
     have y0:V1.cell? ⟨wr.heap.size,0,none⟩=some (.int .i64 (mid ms k)):=by rw [<-hV];simp
     have y1:V1.cell? ⟨wr.heap.size,1,none⟩=some (.slice pa (mat ms k).length pc):=by rw [<-hV];simp
     have LVd:Below wr.heap.size wr V1.drew:=LV.drew
     have HTD:=Za ((LVd.block o (Ze HT.out).2.2.2.2.2.2).trans HT.out)
     have hOV:=(Ze HTD.out).2.1
     have HPD:=Za (HP.out.next LVd)
     have HFD:=Za (HF.out.next LVd)
     have HLD:=Za (Zd HL.out LVd)
     have HC:=Za (ZiJ (mid ms k,pa,pc,mat ms k) V1.drew (hpv.next LVd) (Zat hok.2.2.1).1 (HSM.out.1.2 k))
     have hol1:=(Ze HTD.out).2.2.2.2.2.2
     have hgl1:=HPD.out.blk.lt
     have hszd:w1.heap.size<=V1.drew.heap.size:=Nat.le_trans hsz LVd.size
     have hwb:w.heap.size<=V1.drew.heap.size:=by have:=HLD.out.size;have:=HSZ.out;omega
     clear hms hpv hIr LV LVd hok
     have HSS:Hid (∀W',Below V1.drew.heap.size V1.drew W'->W'.cell? ⟨o,1,none⟩=some (.slice (some ⟨g,0,none⟩) ms.length ms.length)/\W'.cell? ⟨wr.heap.size,0,none⟩=some (.int .i64 (mid ms k))/\W'.cell? ⟨wr.heap.size,1,none⟩=some (.slice pa (mat ms k).length pc)):=fun W' L'=>⟨(L'.cell (p:=⟨o,1,none⟩) hol1).trans hOV,(L'.cell (p:=⟨wr.heap.size,0,none⟩) hYl).trans y0,(L'.cell (p:=⟨wr.heap.size,1,none⟩) hYl).trans y1⟩
     change wr.cell? ⟨mb,mo+k*2,none⟩=some (.int .i64 (mid ms k)) at c0
     change wr.cell? ⟨mb,mo+k*2+1,none⟩=some (.slice pa (mat ms k).length pc) at c1
     obtain⟨id,hid⟩:∃id,mid ms k=id:=⟨_,rfl⟩
     obtain⟨xl,hxl⟩:∃xl,(mat ms k).length=xl:=⟨_,rfl⟩
     have HID:=Za (And.intro hid hxl)
     simp only at HC
     rw [hid,hxl] at HC HSS
     rw [hxl] at y1
     rw [hid] at y0 c0
     rw [hxl] at c1
     rw [hid,hxl] at hV
     clear hid hxl hOV
     go_wp2_with fail
     clear hV c0 c1 y0 y1
     refine ZR (S:=fun w'=>w'.cell? ⟨o,1,none⟩=some (.slice (some ⟨g,0,none⟩) ms.length ms.length)/\w'.cell? ⟨wr.heap.size,0,none⟩=some (.int .i64 id)/\w'.cell? ⟨wr.heap.size,1,none⟩=some (.slice pa xl pc)) (fuel:=2)
      [0,1,2,3] _ rfl (by kernel_rfl) (by kernel_rfl) (by kernel_rfl) (by kernel_rfl) (by kernel_rfl) (by kernel_rfl) (by kernel_rfl) (HSS.out _ (Below.refl _ _)) (fun hS=>?_)
     iterate 4
      refine⟨_,rfl,?_⟩
      apply Exists.intro
      refine⟨Or.inl ⟨by rfl,fun w' hw'=>?_⟩,?_⟩
      · first
        | (go_simp;done)
        | (go_simp;with_reducible rfl)
      simp only [Act.put,List.setIfInBounds_toArray]
     refine Zc 4 (by kernel_rfl) rfl (fun K hK=>?_)
     go_simp
     refine HC.out.mono ?_
     rintro e w3 ⟨h3,c3,rfl,hr3,L3⟩
     refine hK.out _ _ (HSS.out _ L3) (fun _=>?_)
     clear hK K
     refine Zc 5 (by kernel_rfl) rfl (fun K hK=>?_)
     go_simp
     refine hK.out _ _ (HSS.out _ L3) (fun _=>?_)
     clear hK K hS
     have HST:=Za (HPD.out.step L3 hr3 hwb hszd)
     have hN:=HPD.out.next L3
     have f0:=hN.blk.frozen (k*2)
     have f1:=hN.blk.frozen (k*2+1)
     have e0:=hN.blk.cell (i:=k*2) (by omega)
     have e1:=hN.blk.cell (i:=k*2+1) (by omega)
     have hgN:=hN.blk.lt
     obtain⟨hFng,hFno⟩:=HNF.out
     have far:∀b,b≠g->((w3.setCell ⟨g,k*2,none⟩ (.int .i64 id)).setCell ⟨g,k*2+1,none⟩ (.slice (some ⟨h3,0,none⟩) xl c3)).heap[b]? =w3.heap[b]? :=fun b hb=>(Below.heap_setCell _ ⟨g,k*2+1,none⟩ _ b (fun e=>hb e)).trans (Below.heap_setCell _ ⟨g,k*2,none⟩ _ b (fun e=>hb e))
     have HE:Hid (TsO true F ((w3.setCell ⟨g,k*2,none⟩ (.int .i64 id)).setCell ⟨g,k*2+1,none⟩ (.slice (some ⟨h3,0,none⟩) xl c3)) (.slice ta ts.length tc) ts/\((w3.setCell ⟨g,k*2,none⟩ (.int .i64 id)).setCell ⟨g,k*2+1,none⟩ (.slice (some ⟨h3,0,none⟩) xl c3)).heap[o]? =some (.cells #[.int .i64 wd,.slice (some ⟨g,0,none⟩) ms.length ms.length,.int .i64 d,.slice ta ts.length tc,.int .i64 nx] 52)/\Below W.heap.size W ((w3.setCell ⟨g,k*2,none⟩ (.int .i64 id)).setCell ⟨g,k*2+1,none⟩ (.slice (some ⟨h3,0,none⟩) xl c3))/\w1.heap.size<=((w3.setCell ⟨g,k*2,none⟩ (.int .i64 id)).setCell ⟨g,k*2+1,none⟩ (.slice (some ⟨h3,0,none⟩) xl c3)).heap.size):=
      ⟨(HFD.out.next L3).sm ⟨by rw [Zb,Zb];exact Nat.le_refl _,fun b hb=>far b (fun e=>hFng (e ▸ hb))⟩,(far o hog).trans ((L3.block o hol1).trans HTD.out),((Zd HLD.out L3).setCell (by show W.heap.size<=g;exact hg) _).setCell (by show W.heap.size<=g;exact hg) _,by rw [Zb,Zb];exact Nat.le_trans hszd L3.size⟩
     rw [HID.out.1,HID.out.2] at HST
     clear hr3 L3 hN HPD HFD HTD HLD HC HSS far hFng hFno
     refine wpAnyH_done (by kernel_rfl) ?_ _
     simp only [Exit.then]
     go_wp2_with fail
     refine NoPanic.normal ?_
     go_wp2_with fail
     go_roundg (ms.length-(k+1))
     case rel=>exact⟨k+1,_,_,_,by omega,Nat.le_refl _,by go_num,HST.out,HE.out.2.2.2,HE.out.1,HE.out.2.1,HE.out.2.2.1⟩
     case measure=>omega
   · obtain rfl:k=ms.length:=by omega
     have hki:¬((ms.length:Int)<(ms.length:Int)):=by omega
     have tR:=(HL.out.block _ (Ze HTR.out).2.2.2.2.2.2).trans HTR.out
     obtain⟨r0,r1,r2,r3,r4,rf,hrl⟩:=Ze tR
     have rf0:=rf 0
     have rf1:=rf 1
     have rf2:=rf 2
     have rf3:=rf 3
     have rf4:=rf 4
     obtain⟨o0,o1,o2,o3,o4,-,-⟩:=Ze HT.out
     have t3:_=some (Obj.cells #[.int .i64 wd,.slice (some ⟨g,0,none⟩) ms.length ms.length,.int .i64 d,.slice ta ts.length tc,.int .i64 nx] 52):=Zae tR
     obtain⟨q0,q1,q2,q3,q4,-,-⟩:=Ze t3
     have hz:=HL.out.size
     have hFb:=HF1.out
     obtain⟨hFng,hFno⟩:=HNF.out
     obtain⟨wz,hwz⟩:∃wz,((((wr.setCell ⟨w.heap.size+1,0,none⟩ (.int .i64 wd)).setCell ⟨w.heap.size+1,1,none⟩ (.slice (some ⟨g,0,none⟩) ms.length ms.length)).setCell ⟨w.heap.size+1,2,none⟩ (.int .i64 d)).setCell ⟨w.heap.size+1,3,none⟩ (.slice ta ts.length tc)).setCell ⟨w.heap.size+1,4,none⟩ (.int .i64 nx)=wz:=⟨_,rfl⟩
     have far:∀b,b≠w.heap.size+1->wz.heap[b]? =wr.heap[b]? :=fun b hb=>by rw [<-hwz];exact Zaf hb
     have hsw:wz.heap.size=wr.heap.size:=by rw [<-hwz];simp [World.setCell]
     have BZ:Below w.heap.size w wz:=by
      have ho:w.heap.size<=w.heap.size+1:=by omega
      rw [<-hwz];exact ((((((Zd HB.out HL.out).setCell (p:=⟨w.heap.size+1,0,none⟩) ho _).setCell (p:=⟨w.heap.size+1,1,none⟩) ho _).setCell (p:=⟨w.heap.size+1,2,none⟩) ho _).setCell (p:=⟨w.heap.size+1,3,none⟩) ho _).setCell (p:=⟨w.heap.size+1,4,none⟩) ho _)
     have hw1:=HLW.out.size
     have hop:Zag w.heap.size wz g ms.length ms G cc w1.heap.size hi:=⟨HP.out.blk.same (far g (by omega)),fun i hi'=>ZeB (HP.out.rows i hi') (far _ (by have:=HP.out.within i hi';omega)),HP.out.rise,HP.out.within,by rw [hsw];exact HP.out.top,HP.out.ge,HP.out.out⟩
     have HE:=Za (And.intro (hop.raise (by rw [hsw];exact HP.out.top) (Nat.le_refl _)) (And.intro (HF.out.sm (w':=wz) ⟨by omega,fun b hb=>far b (fun e=>by have:=hFb b hb;omega)⟩) BZ))
     have HQ:Hid (∀b,F b->w.heap.size<=b/\b<w1.heap.size):=fun b hb=>by have:=hFb b hb;omega
     have HWZ:=Za hwz
     clear hIr tR t3 HF HP HL HT hz rf far hsw BZ hw1 hop hFb hwz HSM
     go_wp2_with fail
     refine bodyPost_ret (v:=.agg #[.int .i64 wd,.slice (some ⟨g,0,none⟩) ms.length ms.length,.int .i64 d,.slice ta ts.length tc,.int .i64 nx]) (by simp [results,Tryz.results128,go_sem,q0,q1,q2,q3,q4]) rfl ?_
     rw [HWZ.out]
     exact⟨g,_,rfl,⟨G,cc,_,F,HE.out.1,HE.out.2.1,HQ.out,hFng⟩,HE.out.2.2⟩
theorem Zft{l:List Dm}{i:Nat}(h:i<l.length):Zk l i∈l:=by
 have e:Zk l i=l[i]:=by simp [Zk,List.getD,h]
 rw [e]
 exact List.getElem_mem h
theorem ZhO{base:Nat}{w:World}{g c g8 c8:Nat}{ds:List Dm}{p:Dm->Bool}(h:ZbP base w g c ds)(ho:w.ownsRow base 29 2 (.slice (some ⟨g8,0,none⟩) (ds.filter p).length c8) (ds.filter p).length (Zu (ds.filter p)))(hg:∀i,i<ds.length->(Zk ds i).2.1≠g8):ZbP base w g8 c8 (ds.filter p):=by
 have hback:∀i,i<(ds.filter p).length->∃j,j<ds.length/\Zk (ds.filter p) i=Zk ds j:=fun i hi=>by
  have hm:=(List.mem_filter.1 (Zft hi)).1
  obtain⟨j,hj,e⟩:=List.getElem_of_mem hm
  exact⟨j,hj,by rw [<-e];simp [Zk,List.getD,hj]⟩
 have hpw:ds.Pairwise (fun a b=>a.2.1≠b.2.1):=by
  refine List.pairwise_iff_getElem.2 (fun i j hi hj hij=>?_)
  have:=h.apart i j hi hj (by omega)
  simpa [Zk,List.getD,hi,hj] using this
 have hpf:=List.pairwise_iff_getElem.1 (hpw.filter p)
 refine⟨ho,fun i hi=>?_,fun i hi=>?_,fun i j hi hj hne=>?_⟩
 · obtain⟨j,hj,e⟩:=hback i hi
   rw [e];exact h.rows j hj
 · obtain⟨j,hj,e⟩:=hback i hi
   rw [e];exact hg j hj
 · have ei:Zk (ds.filter p) i=(ds.filter p)[i]:=by simp [Zk,List.getD,hi]
   have ej:Zk (ds.filter p) j=(ds.filter p)[j]:=by simp [Zk,List.getD,hj]
   rw [ei,ej]
   rcases Nat.lt_or_ge i j with e | e
   · exact hpf i j hi hj e
   · exact fun e'=>hpf j i hj hi (by omega) e'.symm
theorem iGone(am aw:Option Addr)(cm cw:Nat)(wd:Int)(ms:List Mk)(d:Int)(ts:List Wb)(nx id:Int)(w:World)(hm:Zq w am ms)(hv:Zz true w aw ts)(hsm:Z5 ms ts)(hst:stB wd ms d ts nx=true)(hmb:Zn ms=true)(hok:ZZ d ts=true):
 Calls Tryz.prog 34 #[.agg #[.int .i64 wd,.slice am ms.length cm,.int .i64 d,.slice aw ts.length cw,.int .i64 nx],.int .i64 id] w fun e w'=>∃x,e=.returned (.tuple #[x,.bool (decide (0<=Zv ms id))])/\StO true (Btw w.heap.size w'.heap.size) w' x wd (ZS ms id) d ts nx/\Below w.heap.size w w':=by
 obtain⟨W1,hW1⟩:∃W,w.alloc (.cells #[.int .i64 wd,.slice am ms.length cm,.int .i64 d,.slice aw ts.length cw,.int .i64 nx] 52)=W:=⟨_,rfl⟩
 have hB1:Below w.heap.size w W1:=by rw [<-hW1];exact (Below.refl _ _).alloc (Nat.le_refl _) _
 have hI1:Z7 true W1 w.heap.size am aw cm cw wd ms d ts nx:=by rw [<-hW1];exact Z7.box hm hv
 obtain⟨W2,hW2⟩:∃W,W1.alloc (.cells #[.int .i64 id] 2)=W:=⟨_,rfl⟩
 have hB2:Below W1.heap.size W1 W2:=by rw [<-hW2];exact (Below.refl _ _).alloc (Nat.le_refl _) _
 obtain⟨W,hW⟩:∃W,W2.alloc (.cells #[.int .i64 0,.slice none 0 0,.int .i64 0,.slice none 0 0,.int .i64 0] 52)=W:=⟨_,rfl⟩
 have hB3:Below W2.heap.size W2 W:=by rw [<-hW];exact (Below.refl _ _).alloc (Nat.le_refl _) _
 have s1:W1.heap.size=w.heap.size+1:=by rw [<-hW1];simp
 have s2:W2.heap.size=w.heap.size+1+1:=by rw [<-hW2];simp [s1]
 have s3:W.heap.size=w.heap.size+1+1+1:=by rw [<-hW];simp [s2]
 have TX:W.cell? ⟨w.heap.size+1,0,none⟩=some (.int .i64 id):=by
  have:W2.cell? ⟨w.heap.size+1,0,none⟩=some (.int .i64 id):=by rw [<-hW2,<-s1];simp
  exact (hB3.cell (p:=⟨w.heap.size+1,0,none⟩) (by show w.heap.size+1<_;omega)).trans this
 have TR:W.heap[w.heap.size+1+1]? =some (.cells #[.int .i64 0,.slice none 0 0,.int .i64 0,.slice none 0 0,.int .i64 0] 52):=by rw [<-hW,<-s2];exact heap_alloc_new W2 _
 have hI:=(hI1.below hB2).below hB3
 have HB:=Za (Zd (Zd hB1 hB2) hB3)
 have HI:=Za hI
 have HTR:=Za TR
 have HTX:=Za TX
 have HSZ:=Za s3
 have HC:=Za (Zb9 am aw cm cw wd ms d ts nx W hI.mv hI.wv hsm)
 rw [hst] at HC
 have HOS:=Za (fun (W':World) (L:Below W.heap.size W W')=>Zf8 true am aw cm cw wd ms d ts nx W' (hI.below L).mv (hI.below L).wv hmb hok hsm)
 have HMB:=Za hmb
 have k0:=hI.c0
 have k1:=hI.c1
 have k2:=hI.c2
 have k3:=hI.c3
 have k4:=hI.c4
 have HWW:Hid (((w.alloc (.cells #[.int .i64 wd,.slice am ms.length cm,.int .i64 d,.slice aw ts.length cw,.int .i64 nx] 52)).alloc (.cells #[.int .i64 id] 2)).alloc (.cells #[.int .i64 0,.slice none 0 0,.int .i64 0,.slice none 0 0,.int .i64 0] 52)=W):=by show _=_;rw [hW1,hW2,hW]
 clear hm hv hB1 hI1 hB2 hB3 TX TR hI s1 s2 s3 hW hW1 hW2 hok hmb hsm hst
 go_enter Tryz.func34,Tryz.ntmps34
 go_upto_region 1 with fail
 rw [HWW.out]
 clear HWW
 go_wp2_with fail
 refine HC.out.mono ?_
 rintro e w1 ⟨rfl,L1⟩
 clear k0 k1 k2 k3 k4
 have hI1:=HI.out.below L1
 have k0:=hI1.c0
 have k1:=hI1.c1
 have k2:=hI1.c2
 have k3:=hI1.c3
 have k4:=hI1.c4
 have HO1:=Za (HOS.out w1 L1)
 have HL1:=Za L1
 clear hI1 L1
 go_wp2_with fail
 refine HO1.out.mono ?_
 rintro e w2 ⟨g,vt,rfl,⟨G,cc,lo,F,hop,htw,hF,hFg⟩,L2⟩
 clear k0 k1 k2 k3 k4
 obtain⟨ta,tc,rfl,-,-⟩:=htw.view
 obtain⟨w3,hw3⟩:∃w3,w2.alloc (.cells #[.int .i64 wd,.slice (some ⟨g,0,none⟩) ms.length ms.length,.int .i64 d,.slice ta ts.length tc,.int .i64 nx] 52)=w3:=⟨_,rfl⟩
 have L3:Below w2.heap.size w2 w3:=by rw [<-hw3];exact (Below.refl _ _).alloc (Nat.le_refl _) _
 have hz3:w3.heap.size=w2.heap.size+1:=by rw [<-hw3];simp
 have t3:w3.heap[w2.heap.size]? =some (.cells #[.int .i64 wd,.slice (some ⟨g,0,none⟩) ms.length ms.length,.int .i64 d,.slice ta ts.length tc,.int .i64 nx] 52):=by rw [<-hw3];exact heap_alloc_new w2 _
 have h60:=ZA HMB.out
 have hmo:=(hop.next L3).own (by unfold maxLen;omega)
 have hdl:=Zbb ms G cc
 have hdm:=ZbA ms G cc
 have HBW:Hid (Below W.heap.size W w3):=Zd (Zd HL1.out L2) L3
 have hsz1:=HL1.out.size
 have hs3:=HSZ.out
 have hz2:=L2.size
 have HON:=Za (Zoq g ms.length (w.heap.size+1) (ZaO ms G cc) id w3 (by have:=hop.blk.lt;omega) (fun i hi=>hmo.cells i hi) (by omega) (by omega) ((HBW.out.cell (p:=⟨w.heap.size+1,0,none⟩) (by show w.heap.size+1<_;omega)).trans HTX.out))
 rw [hdl] at HON
 have HGL:Hid (((ZaO ms G cc).filter (ZaA id)).length=(ZS ms id).length/\Zj ((ZaO ms G cc).filter (ZaA id))=ZS ms id):=by
  have h:=ZhP (ZaO ms G cc) id
  rw [hdm] at h
  exact⟨by rw [<-h,Zp],h⟩
 rw [HGL.out.1] at HON
 have HMO:=Za hmo
 have HTW:=Za (htw.next L3)
 have HFF:Hid ((∀b,F b->w1.heap.size<=b/\b<lo)/\∀i,i<ms.length->lo<=G i/\G i<w2.heap.size):=⟨hF,fun i hi=>hop.within i hi⟩
 have HLO:Hid (lo<=w2.heap.size\/ms.length=0):=by
  rcases Nat.eq_zero_or_pos ms.length with h | h
  · exact Or.inr h
  · exact Or.inl (by have:=hop.within 0 h;omega)
 have HFB:Hid (∀b,F b->b<w2.heap.size):=fun b hb=>htw.bnd b hb
 have HDL:=Za hdl
 have HW3:=Za hw3
 have HT3:=Za t3
 have HZ3:=Za hz3
 have HZ2:=Za hz2
 obtain⟨j0,j1,j2,j3,j4,jf,hjl⟩:=Ze t3
 have jf1:=jf 1
 clear hop htw hF hFg hmo hdl hdm L2 L3 t3 hw3 hz3 HO1 HOS jf hz2 h60
 go_upto_region 4 with fail
 rw [HW3.out]
 go_wp2_with fail
 refine HON.out.mono ?_
 rintro e w4 ⟨g8,c8,rfl,hrow,L4⟩
 have HROW:=Za hrow
 have HL4:=Za L4
 have t4:=(L4.block _ hjl).trans HT3.out
 obtain⟨j0,j1,j2,j3,j4,jf,hjl4⟩:=Ze t4
 have jf1:=jf 1
 have t5:(w4.setCell ⟨w2.heap.size,1,none⟩ (.slice (some ⟨g8,0,none⟩) (ZS ms id).length c8)).heap[w2.heap.size]? =_:=Zco t4
 obtain⟨w5,hw5⟩:∃w5,w4.setCell ⟨w2.heap.size,1,none⟩ (.slice (some ⟨g8,0,none⟩) (ZS ms id).length c8)=w5:=⟨_,rfl⟩
 rw [hw5] at t5
 have far5:∀b,b≠w2.heap.size->w5.heap[b]? =w4.heap[b]? :=fun b hb=>by rw [<-hw5];exact Below.heap_setCell w4 ⟨w2.heap.size,1,none⟩ _ b (fun e=>hb e)
 have z5:w5.heap.size=w4.heap.size:=by rw [<-hw5];simp [World.setCell]
 have HT5:=Za t5
 have hI4:=(HI.out.below HBW.out).below L4
 have HX5:Hid (w5.heap[w.heap.size]? =w4.heap[w.heap.size]?):=far5 _ (by have:=HZ2.out;omega)
 have hm5:w5.cell? ⟨w.heap.size,1,none⟩=some (.slice am ms.length cm):=(World.cell?_of_block (a:=⟨w.heap.size,1,none⟩) HX5.out).trans hI4.c1
 have HFR:=Za (And.intro far5 z5)
 have HW5:=Za hw5
 have HM5:=Za hm5
 clear hrow L4 t4 jf t5 far5 z5 hI4 hw5 hm5 HON
 go_upto_region 5 with fail
 rw [HW5.out]
 clear j0 j1 j2 j3 j4 jf1
 obtain⟨i0,i1,i2,i3,i4,-,hil⟩:=Ze HT5.out
 have HCE:Hid (∀W':World,W'.heap[w2.heap.size]? =w5.heap[w2.heap.size]? ->W'.heap[w.heap.size]? =w5.heap[w.heap.size]? ->(W'.cell? ⟨w2.heap.size,0,none⟩=some (.int .i64 wd)/\W'.cell? ⟨w2.heap.size,1,none⟩=some (.slice (some ⟨g8,0,none⟩) (ZS ms id).length c8)/\W'.cell? ⟨w2.heap.size,2,none⟩=some (.int .i64 d)/\W'.cell? ⟨w2.heap.size,3,none⟩=some (.slice ta ts.length tc)/\W'.cell? ⟨w2.heap.size,4,none⟩=some (.int .i64 nx))/\W'.cell? ⟨w.heap.size,1,none⟩=some (.slice am ms.length cm)):=fun W' h1 h2=>⟨⟨(World.cell?_of_block (a:=⟨w2.heap.size,0,none⟩) h1).trans i0,(World.cell?_of_block (a:=⟨w2.heap.size,1,none⟩) h1).trans i1,(World.cell?_of_block (a:=⟨w2.heap.size,2,none⟩) h1).trans i2,(World.cell?_of_block (a:=⟨w2.heap.size,3,none⟩) h1).trans i3,(World.cell?_of_block (a:=⟨w2.heap.size,4,none⟩) h1).trans i4⟩,(World.cell?_of_block (a:=⟨w.heap.size,1,none⟩) h2).trans HM5.out⟩
 clear i0 i1 i2 i3 i4
 refine Zt (S:=fun W'=>W'.heap[w2.heap.size]? =w5.heap[w2.heap.size]? /\W'.heap[w.heap.size]? =w5.heap[w.heap.size]?) (fuel:=2) [0,1,2,3,4,5,6,7] (by kernel_rfl) (by kernel_rfl) (by kernel_rfl) (by kernel_rfl) ⟨rfl,rfl⟩ (fun _=>?_)
 iterate 8 (refine⟨_,rfl,?_⟩;apply Exists.intro;refine⟨Or.inl ⟨by rfl,fun w' hw'=>?_⟩,?_⟩;(focus (obtain⟨⟨e1,e2,e3,e4,e5⟩,e6⟩:=HCE.out w' hw'.1 hw'.2;first | (go_simp;done) | (go_simp;with_reducible rfl)));simp only [Act.put,List.getElem_toArray,List.getElem_cons_succ,List.getElem_cons_zero,List.setIfInBounds_toArray,List.set_cons_zero,List.set_cons_succ])
 obtain⟨V,hV⟩:∃V,w5.drew=V:=⟨_,rfl⟩
 have hVh:V.heap=w5.heap:=by rw [<-hV];rfl
 have hVL:Below w5.heap.size w5 V:=by rw [<-hV];exact (Below.refl _ _).drew
 rw [hV]
 clear hV
 have tr5:V.heap[w.heap.size+1+1]? =some (.cells #[.int .i64 0,.slice none 0 0,.int .i64 0,.slice none 0 0,.int .i64 0] 52):=by
  rw [hVh]
  have hz2:=HZ2.out
  have hz3:=HZ3.out
  exact (HFR.out.1 _ (by omega)).trans ((HL4.out.block _ (by omega)).trans ((HBW.out.block _ (by omega)).trans HTR.out))
 obtain⟨r0,r1,r2,r3,r4,rf,hrl⟩:=Ze tr5
 have rf0:=rf 0
 have rf1:=rf 1
 have rf2:=rf 2
 have rf3:=rf 3
 have rf4:=rf 4
 have t6:_=some (Obj.cells #[.int .i64 wd,.slice (some ⟨g8,0,none⟩) (ZS ms id).length c8,.int .i64 d,.slice ta ts.length tc,.int .i64 nx] 52):=Zae tr5
 obtain⟨q0,q1,q2,q3,q4,-,-⟩:=Ze t6
 refine Zc 8 (by kernel_rfl) rfl (fun K hK=>?_)
 go_simp
 obtain⟨wz,hwz⟩:∃wz,((((V.setCell ⟨w.heap.size+1+1,0,none⟩ (.int .i64 wd)).setCell ⟨w.heap.size+1+1,1,none⟩ (.slice (some ⟨g8,0,none⟩) (ZS ms id).length c8)).setCell ⟨w.heap.size+1+1,2,none⟩ (.int .i64 d)).setCell ⟨w.heap.size+1+1,3,none⟩ (.slice ta ts.length tc)).setCell ⟨w.heap.size+1+1,4,none⟩ (.int .i64 nx)=wz:=⟨_,rfl⟩
 have far:∀b,b≠w.heap.size+1+1->wz.heap[b]? =w5.heap[b]? :=fun b hb=>by rw [<-hwz,<-hVh];exact Zaf hb
 have hsw:wz.heap.size=w5.heap.size:=by rw [<-hwz,<-hVh];simp [World.setCell]
 have hz2:=HZ2.out
 have hz3:=HZ3.out
 have hz4:=HL4.out.size
 have hz5:=HFR.out.2
 have L5:Below w.heap.size w w5:=by
  have h:=(HB.out.trans (Below.mono HBW.out (by omega))).trans (Below.mono HL4.out (by omega))
  rw [<-HW5.out]
  exact h.setCell (by show w.heap.size<=w2.heap.size;omega) _
 have BZ:Below w.heap.size w wz:=by
  have ho:w.heap.size<=w.heap.size+1+1:=by omega
  have hLV:Below w.heap.size w V:=L5.trans (Below.mono hVL (by omega))
  rw [<-hwz];exact (((((hLV.setCell (p:=⟨w.heap.size+1+1,0,none⟩) ho _).setCell (p:=⟨w.heap.size+1+1,1,none⟩) ho _).setCell (p:=⟨w.heap.size+1+1,2,none⟩) ho _).setCell (p:=⟨w.heap.size+1+1,3,none⟩) ho _).setCell (p:=⟨w.heap.size+1+1,4,none⟩) ho _)
 have hg8:=World.ownsRow.lt HROW.out g8 rfl
 have hst:StO true (Btw w.heap.size wz.heap.size) wz (.agg #[.int .i64 wd,.slice (some ⟨g8,0,none⟩) (ZS ms id).length c8,.int .i64 d,.slice ta ts.length tc,.int .i64 nx]) wd (ZS ms id) d ts nx:=by
  have hff:=HFF.out
  have hgl:=HGL.out
  have hmo4:ZbP w1.heap.size w4 g ms.length (ZaO ms G cc):=ZcB HMO.out (Sta.below HL4.out (fun b hb=>(Zb7 HMO.out b hb).2))
  have hGlt:∀i,i<(ZaO ms G cc).length->(Zk (ZaO ms G cc) i).2.1<w2.heap.size/\lo<=(Zk (ZaO ms G cc) i).2.1:=fun i hi=>by
   rw [HDL.out] at hi
   rw [ZbF hi]
   exact⟨(hff.2 i hi).2,(hff.2 i hi).1⟩
  have hrow4:w4.ownsRow w1.heap.size 29 2 (.slice (some ⟨g8,0,none⟩) ((ZaO ms G cc).filter (ZaA id)).length c8) ((ZaO ms G cc).filter (ZaA id)).length (Zu ((ZaO ms G cc).filter (ZaA id))):=by
   rw [hgl.1]
   exact⟨HROW.out.1,HROW.out.2.imp (fun h=>h) fun ⟨g',cap,cur,h1,h2,h3⟩=>⟨g',cap,cur,h1,Nat.le_trans (by omega) h2,h3⟩⟩
  have hf4:=ZhO hmo4 hrow4 (fun i hi e=>by have:=hGlt i hi;omega)
  have hfb:∀b,FtM g8 ((ZaO ms G cc).filter (ZaA id)) b->(b=g8\/(lo<=b/\b<w2.heap.size)):=fun b hb=>by
   rcases hb with rfl | ⟨i,hi,rfl⟩
   · exact Or.inl rfl
   · have hm:=(List.mem_filter.1 (Zft hi)).1
     obtain⟨j,hj,e⟩:=List.getElem_of_mem hm
     have e2:Zk ((ZaO ms G cc).filter (ZaA id)) i=Zk (ZaO ms G cc) j:=by rw [<-e];simp [Zk,List.getD,hj]
     rw [e2]
     exact Or.inr ⟨(hGlt j hj).2,(hGlt j hj).1⟩
  have hlow:∀b,FtM g8 ((ZaO ms G cc).filter (ZaA id)) b->w1.heap.size<=b/\b<w4.heap.size:=fun b hb=>Zb7 hf4 b hb
  have hfz:ZbP w1.heap.size wz g8 c8 ((ZaO ms G cc).filter (ZaA id)):=ZcB hf4 ⟨by omega,fun b hb=>by
   have h1:=hlow b hb
   have h2:=hfb b hb
   exact (far b (by omega)).trans (HFR.out.1 b (by omega))⟩
  have hat:∀x∈ZS ms id,x.2.length<=4:=fun x hx=>by
   have hx':=(List.mem_filter.1 hx).1
   obtain⟨i,hi',rfl⟩:=List.getElem_of_mem hx'
   have:=((ZG _ _).1 (ZM HMB.out hi')).2.2.1
   have h4:=(Zat this).2
   simpa [mat,List.getD,hi'] using h4
  have h60:=ZA HMB.out
  have hgle:=Zfp ms id
  have how:=ZdX hfz (by rw [hgl.1];omega) (by rw [hgl.2];exact hat)
  rw [hgl.1,hgl.2] at how
  have htz:TsO true F wz (.slice ta ts.length tc) ts:=HTW.out.sm ⟨by omega,fun b hb=>by
   have h1:=hff.1 b hb
   have h2:=HFB.out b hb
   exact (far b (by omega)).trans ((HFR.out.1 b (by omega)).trans (HL4.out.block b (by omega)))⟩
  have hcap:(ZS ms id).length<=c8:=by
   obtain⟨-,⟨x,-⟩ | ⟨g',cap,cur,x,-,-,hcc,-⟩⟩:=HROW.out
   · cases x
   · injection x with x1 x2 x3;omega
  refine StO.of wd d nx (fun _=>how) (Nat.le_trans (Zc5 _ 60 4 (by omega) hat) (by omega)) hcap (fun w' hs=>?_) htz (fun b hb=>hb.2) (fun b hb=>?_) (fun b hb=>?_) (fun b hb hb'=>?_)
  · have:=(ZcB hfz hs).view
    rw [hgl.2] at this
    exact this
  · have:=hlow b hb
    exact⟨by omega,by omega⟩
  · have h1:=hff.1 b hb
    have h2:=HFB.out b hb
    exact⟨by omega,by omega⟩
  · have h1:=hfb b hb
    have h2:=hff.1 b hb'
    have h3:=HFB.out b hb'
    rcases h1 with e | h1
    · omega
    · omega
 have HST:=Za (And.intro hst BZ)
 have HLES:Hid (decide (((ZS ms id).length:Int)<(ms.length:Int))=decide (0<=Zv ms id)):=by
  show _=_
  rw [<-Zky]
  simp
 have HQ:Hid (wz.cell? ⟨w.heap.size+1+1,0,none⟩=some (.int .i64 wd)/\wz.cell? ⟨w.heap.size+1+1,1,none⟩=some (.slice (some ⟨g8,0,none⟩) (ZS ms id).length c8)/\wz.cell? ⟨w.heap.size+1+1,2,none⟩=some (.int .i64 d)/\wz.cell? ⟨w.heap.size+1+1,3,none⟩=some (.slice ta ts.length tc)/\wz.cell? ⟨w.heap.size+1+1,4,none⟩=some (.int .i64 nx)):=by
  rw [hwz] at q0 q1 q2 q3 q4
  exact⟨q0,q1,q2,q3,q4⟩
 have HSS:Hid (wz.heap[w2.heap.size]? =w5.heap[w2.heap.size]? /\wz.heap[w.heap.size]? =w5.heap[w.heap.size]?):=⟨far _ (by omega),far _ (by omega)⟩
 rw [hwz]
 clear hst BZ far hsw hwz tr5 t6 rf rf0 rf1 rf2 rf3 rf4 r0 r1 r2 r3 r4 q0 q1 q2 q3 q4 hVh hVL L5 hg8
 refine hK.out _ _ HSS.out (fun _=>?_)
 clear hK K
 refine Zc 9 (by kernel_rfl) rfl (fun K hK=>?_)
 go_simp
 refine hK.out _ _ HSS.out (fun _=>?_)
 clear hK K
 refine wpAnyH_done (by kernel_rfl) ?_ _
 refine NoPanic.normal ?_
 try simp only [Exit.then]
 obtain⟨q0,q1,q2,q3,q4⟩:=HQ.out
 go_wp2_with fail
 refine bodyPost_ret (v:=.tuple #[.agg #[.int .i64 wd,.slice (some ⟨g8,0,none⟩) (ZS ms id).length c8,.int .i64 d,.slice ta ts.length tc,.int .i64 nx],.bool (decide (((ZS ms id).length:Int)<(ms.length:Int)))]) (by simp [results,Tryz.results34,go_sem,q0,q1,q2,q3,q4]) rfl ?_
 rw [HLES.out]
 exact⟨_,rfl,HST.out.1,HST.out.2⟩
theorem ZlP(am aw:Option Addr)(cm cw:Nat)(wd:Int)(ms:List Mk)(d:Int)(ts:List Wb)(nx id:Int)(w:World)(hm:Zq w am ms)(hv:Zz true w aw ts)(hsm:Z5 ms ts)(hst:stB wd ms d ts nx=false):
 Calls Tryz.prog 34 #[.agg #[.int .i64 wd,.slice am ms.length cm,.int .i64 d,.slice aw ts.length cw,.int .i64 nx],.int .i64 id] w fun e w'=>e=.returned (.tuple #[.agg #[.int .i64 0,.slice none 0 0,.int .i64 0,.slice none 0 0,.int .i64 0],.bool false])/\Below w.heap.size w w':=by
 obtain⟨W1,hW1⟩:∃W,w.alloc (.cells #[.int .i64 wd,.slice am ms.length cm,.int .i64 d,.slice aw ts.length cw,.int .i64 nx] 52)=W:=⟨_,rfl⟩
 have hB1:Below w.heap.size w W1:=by rw [<-hW1];exact (Below.refl _ _).alloc (Nat.le_refl _) _
 have hI1:Z7 true W1 w.heap.size am aw cm cw wd ms d ts nx:=by rw [<-hW1];exact Z7.box hm hv
 obtain⟨W2,hW2⟩:∃W,W1.alloc (.cells #[.int .i64 id] 2)=W:=⟨_,rfl⟩
 have hB2:Below W1.heap.size W1 W2:=by rw [<-hW2];exact (Below.refl _ _).alloc (Nat.le_refl _) _
 obtain⟨W,hW⟩:∃W,W2.alloc (.cells #[.int .i64 0,.slice none 0 0,.int .i64 0,.slice none 0 0,.int .i64 0] 52)=W:=⟨_,rfl⟩
 have hB3:Below W2.heap.size W2 W:=by rw [<-hW];exact (Below.refl _ _).alloc (Nat.le_refl _) _
 have s1:W1.heap.size=w.heap.size+1:=by rw [<-hW1];simp
 have s2:W2.heap.size=w.heap.size+1+1:=by rw [<-hW2];simp [s1]
 have TR:W.heap[w.heap.size+1+1]? =some (.cells #[.int .i64 0,.slice none 0 0,.int .i64 0,.slice none 0 0,.int .i64 0] 52):=by rw [<-hW,<-s2];exact heap_alloc_new W2 _
 have hI:=(hI1.below hB2).below hB3
 have HB:=Za (Zd (Zd hB1 hB2) hB3)
 have HTR:=Za TR
 have HC:=Za (Zb9 am aw cm cw wd ms d ts nx W hI.mv hI.wv hsm)
 rw [hst] at HC
 have k0:=hI.c0
 have k1:=hI.c1
 have k2:=hI.c2
 have k3:=hI.c3
 have k4:=hI.c4
 have HWW:Hid (((w.alloc (.cells #[.int .i64 wd,.slice am ms.length cm,.int .i64 d,.slice aw ts.length cw,.int .i64 nx] 52)).alloc (.cells #[.int .i64 id] 2)).alloc (.cells #[.int .i64 0,.slice none 0 0,.int .i64 0,.slice none 0 0,.int .i64 0] 52)=W):=by show _=_;rw [hW1,hW2,hW]
 clear hm hv hB1 hI1 hB2 hB3 TR hI s1 s2 hW hW1 hW2 hsm hst
 go_enter Tryz.func34,Tryz.ntmps34
 go_upto_region 1 with fail
 rw [HWW.out]
 clear HWW
 go_wp2_with fail
 refine HC.out.mono ?_
 rintro e w1 ⟨rfl,L1⟩
 obtain⟨r0,r1,r2,r3,r4,rf,hrl⟩:=Ze ((L1.block _ (Ze HTR.out).2.2.2.2.2.2).trans HTR.out)
 have rf0:=rf 0
 have rf1:=rf 1
 have rf2:=rf 2
 have rf3:=rf 3
 have rf4:=rf 4
 have HB1:=Za (Zd HB.out L1)
 clear L1 rf k0 k1 k2 k3 k4
 go_wp2_with fail
 refine bodyPost_ret (v:=.tuple #[.agg #[.int .i64 0,.slice none 0 0,.int .i64 0,.slice none 0 0,.int .i64 0],.bool false]) (by simp [results,Tryz.results34,go_sem,r0,r1,r2,r3,r4]) rfl ?_
 have ho:w.heap.size<=w.heap.size+1+1:=by omega
 exact⟨rfl,(((((HB1.out.setCell (p:=⟨w.heap.size+1+1,0,none⟩) ho _).setCell (p:=⟨w.heap.size+1+1,1,none⟩) ho _).setCell (p:=⟨w.heap.size+1+1,2,none⟩) ho _).setCell (p:=⟨w.heap.size+1+1,3,none⟩) ho _).setCell (p:=⟨w.heap.size+1+1,4,none⟩) ho _)⟩
end Go.Proofs.YtaaagmgglolibaaGreat
