import Derived.Test.YtaaagmgglolibaaGreatMRowZz
import Derived.Test.YtaaagmgglolibaaGreatMCopyZz
import Derived.Test.YtaaagmgglolibaaGreatMHighZz
import Derived.Test.YtaaagmgglolibaaGreatWithZz
set_option maxRecDepth 100000
set_option maxHeartbeats 2000000
namespace Go.Proofs.YtaaagmgglolibaaGreat
open Go Go.RowKit
theorem Zmc{base base':Nat}{w:World}{g c:Nat}{xs:List Int}(h:Row base w g c xs)(hb:base'<=base):Row base' w g c xs:=
 ⟨h.1,h.2.imp id fun ⟨g,cap,cur,h1,h2,h3⟩=>⟨g,cap,cur,h1,Nat.le_trans hb h2,h3⟩⟩
def DNew(base:Nat)(w:World)(g c:Nat)(ds:List Dm)(most:Int):Prop:=(ds.length:Int)<=most/\ZL base w g c ds/\∃width id:Int,1<=width/\width<=3/\id<=1000/\ZeD width id ds
theorem Zid(q:Nat)(ao:Option Addr)(n cap:Nat)(most:Int)(w:World)(hc:Cur w q ao n cap)(hv:ZW w ao n)(hn:n<=4096)(hm0:0<=most)(hm:most<=60):
 Calls Tryz.prog 210 #[.pointer (some ⟨q,0,none⟩),.int .i64 most] w fun e w'=>(∃g c ds,e=.returned (.slice (some ⟨g,0,none⟩) ds.length c)/\DNew w.heap.size w' g c ds most)/\Cur w' q ao n cap/\w.grownBy w' (some q):=by
 have hq:=hc.lt
 obtain⟨i0,hi0,hz0,hz1,hz2⟩:=info_parts Tryz.info2
 obtain⟨j0,hj0,hy0,hy1,hy2⟩:=info_parts Tryz.info29
 have HC:=Za hc
 have HV:=Za hv
 have C0:=hc.alloc (.cells #[] 29)
 have V0:=hv.grown hc (World.grownBy_alloc w (.cells #[] 29) (some q))
 have G0:=World.grownBy_alloc w (.cells #[] 29) (some q)
 have D0:=Za (ZL.start w w.heap.size (Nat.le_refl _))
 clear hc hv
 go_enter Tryz.func210,Tryz.ntmps210
 go_wp2_with fail
 generalize w.alloc (.cells #[] 29)=W0 at *
 refine (ZaV q ao n cap 3 _ C0 V0 hn (by omega) (by omega)).mono ?_
 rintro e w1 ⟨⟨y,ya,yb,rfl⟩,c1,g1⟩
 have V1:=V0.grown C0 g1
 have D1:=Za (D0.out.kept g1 (by intro k hk;cases hk;exact hq))
 have G1:=Zh G0 g1
 clear V0 C0 g1 G0 D0
 go_wp2_with fail
 refine (ZaV q ao n cap (most+1) _ c1 V1 hn (by omega) (by omega)).mono ?_
 rintro e w2 ⟨⟨z,za,zb,rfl⟩,c2,g2⟩
 have V2:=V1.grown c1 g2
 have D2:=Za (D1.out.kept g2 (by intro k hk;cases hk;exact hq))
 have G2:=Zh G1 g2
 clear V1 c1 g2 G1 D1
 go_wp2_with fail
 go_loopw [5,7,8] (fun v i s wr=>∃(ds:List Dm) (g c:Nat) (id m:Int),v=.slice (some ⟨g,0,none⟩) ds.length c/\i=.int .i64 id/\s=.int .i64 m/\0<=m/\ds.length+m<=most/\0<=id/\id<=2*ds.length/\ZL w.heap.size wr g c ds/\ZeD (1+y) id ds/\Cur wr q ao n cap/\w.grownBy wr (some q)) (fun _ _ s _=>(intOf s).toNat)
 case atStart=>exact⟨[],w.heap.size,0,0,z,rfl,rfl,rfl,za,by simp;omega,by omega,by simp,D2.out,ZeD.nil _,c2,G2⟩
 case round=>
  obtain⟨ds,g,c,id,m,rfl,rfl,rfl,hm1,hm2,hid0,hid1,D,GD,cr,G⟩:=hrel
  have HD:=Za D
  have HGD:=Za GD
  have Vr:=HV.out.grown HC.out G
  clear D GD
  by_cases hpos:0<m
  · go_wp2_with fail
    refine (ZaV q ao n cap 2 _ cr Vr hn (by omega) (by omega)).mono ?_
    rintro e w3 ⟨⟨x,xa,xb,rfl⟩,c3,g3⟩
    have D3:=Za (HD.out.kept g3 (by intro k hk;cases hk;exact hq))
    have G3:=Zh G g3
    have V3:=HV.out.grown HC.out G3
    have hq3:q<w3.heap.size:=c3.lt
    have hz3:=G3.size
    have C4:=c3.alloc (.cells #[] 2)
    have G4:=World.grownBy_alloc w3 (.cells #[] 2) (some q)
    have R4:=Za (World.ownsRow_lit (base:=w3.heap.size) (e:=2) (size:=1) w3 #[] 0 (Nat.le_refl _) (Nat.zero_le _) rfl)
    have hwx:IntKind.i64.wrap (id+1)=id+1:=IntWalk.i64_in _ ⟨by omega,by omega⟩
    clear cr Vr G g3 HD
    go_wp2_with fail
    generalize w3.alloc (.cells #[] 2)=W4 at *
    go_loopw [9,10] (fun v i wr2=>∃(xs:List Int) (g' c':Nat),v=.slice (some ⟨g',0,none⟩) xs.length c'/\i=.int .i64 xs.length/\(xs.length:Int)<=1+y/\(∀x∈xs,-6<=x/\x<=13)/\Row w3.heap.size wr2 g' c' xs/\Cur wr2 q ao n cap/\w3.grownBy wr2 (some q)) (fun _ i _=>(1+y-intOf i).toNat)
    case atStart=>exact⟨[],w3.heap.size,0,rfl,rfl,by simp;omega,fun x hx=>(by cases hx),R4.out,C4,G4⟩
    case round=>
     obtain⟨xs,g',c',rfl,rfl,hxl,hxs,hrow,cr2,gr2⟩:=hrel
     have V5:=V3.grown c3 gr2
     have HX:=Za hxs
     have HR:=Za hrow
     have hgl:=hrow.lt2
     have hz4:=gr2.size
     clear hxs hrow
     by_cases hlt:(xs.length:Int)<1+y
     · go_wp2_with fail
       refine (Zg4 q ao n cap (-6) 13 _ cr2 V5 hn (by omega) (by omega) (by omega) (by omega)).mono ?_
       rintro e w5 ⟨⟨t,ta,tb,rfl⟩,c5,g5⟩
       have hrow1:Row w3.heap.size w5 g' c' xs:=World.ownsRow.kept HR.out g5 (Or.inr (by simp [Value.ownBlock];omega))
       have hs1:=g5.size
       clear cr2 V5 HR
       go_wp2_with (at_builtin;refine wpList_append_lies _ rfl (.tmp 34) (.tmp 37) 27 rfl w3.heap.size 2 i0 _ 1 8 Tryz.underlying27 hi0 hz0 hz1 hz2 rfl (by omega) (.slice (some ⟨g',0,none⟩) xs.length c') xs.length (xs.map (Value.int .i64)) rfl (World.ownsRow.alloc hrow1 _) ⟨w5.heap.size,0,none⟩ 1 1 [.int .i64 t] rfl rfl (World.news_of_block (cs:=#[.int .i64 t]) (t:=2) (fr:=(0,0)) (heap_alloc_new w5 _)) (by simp [Value.oneCell']) (by omega) (by unfold maxLen;omega) (by omega) (by simp;omega) (w5.heap.size+1) (by simp) ?_;intro gg cc w6 hown2 hgrow hat hlt1)
       go_wp2
       go_roundw
       case rel=>
        refine⟨xs++[t],gg,cc,?_,?_,by simp;omega,?_,?_,?_,?_⟩
        · rw [List.length_append,List.length_singleton]
        · rw [List.length_append,List.length_singleton];go_num
        · intro x hx
          rcases List.mem_append.1 hx with h | h
          · exact HX.out x h
          · rw [List.mem_singleton.1 h];exact⟨ta,tb⟩
        · unfold Row;rw [List.length_append,List.length_singleton,List.map_append];exact hown2
        · exact (c5.alloc _).grown hgrow (by simp [Value.ownBlock];omega)
        · exact ZaF (ZaF (Zh gr2 g5) (World.grownBy_alloc w5 _ none) (by simp)) hgrow (by intro k hk;simp [Value.ownBlock] at hk;omega)
       case measure=>simp [intOf];omega
     · have D5:=D3.out.kept gr2 (by intro k hk;cases hk;exact hq)
       have hdl:=D3.out.lt
       have HDL:Hid (∀d∈ds,d.2.1<g'):=fun d hd=>by have:=(D3.out.2.1 d hd).1.lt2;omega
       have hne:g'≠g:=by omega
       have G5:=Zh G3 gr2
       have D6:=D5.kept (World.grownBy_alloc wr (.cells #[.int .i64 (id+1+x),.slice (some ⟨g',0,none⟩) xs.length c'] 29) none) (by intro k hk;cases hk)
       have R6:Row w.heap.size (wr.alloc (.cells #[.int .i64 (id+1+x),.slice (some ⟨g',0,none⟩) xs.length c'] 29)) g' c' xs:=World.ownsRow.alloc (Zmc HR.out hz3) _
       have HD6:=Za D6
       have HR6:=Za R6
       clear D5 R6 D6
       go_wp2_with (at_builtin;refine wpList_append_lies _ rfl (.tmp 39) (.tmp 43) 44 rfl w.heap.size 29 j0 _ 2 32 Tryz.underlying44 hj0 hy0 hy1 hy2 rfl (by omega) (.slice (some ⟨g,0,none⟩) ds.length c) ds.length (Zu ds) rfl HD6.out.1 ⟨wr.heap.size,0,none⟩ 1 1 [.int .i64 (id+1+x),.slice (some ⟨g',0,none⟩) xs.length c'] rfl rfl (World.news_of_block (cs:=#[.int .i64 (id+1+x),.slice (some ⟨g',0,none⟩) xs.length c']) (t:=29) (fr:=(0,0)) (heap_alloc_new wr _)) (by simp [Value.oneCell']) (by omega) (by unfold maxLen;omega) (by omega) (by simp;omega) (wr.heap.size+1) (by simp) ?_;intro gg cc w6 hown2 hgrow hat hlt1)
       go_wp2
       go_roundw
       case rel=>
        refine⟨ds++[(id+1+x,g',c',xs)],gg,cc,id+1+x,m-1,?_,rfl,rfl,by omega,by simp;omega,by omega,by simp;omega,?_,?_,?_,?_⟩
        · rw [List.length_append,List.length_singleton]
        · exact HD6.out.snoc HR6.out hne HDL.out hown2 hgrow (by rcases hat with h | h;exact Or.inl (by simpa [Value.ownBlock] using h.symm);exact Or.inr (by rw [h];simp))
        · exact HGD.out.snoc (by omega) (by omega) (by omega) HX.out
        · exact (cr2.alloc _).grown hgrow (by simp [Value.ownBlock];omega)
        · exact ZaF (ZaF G5 (World.grownBy_alloc wr _ none) (by simp)) hgrow (by intro k hk;simp [Value.ownBlock] at hk;omega)
       case measure=>simp [intOf];omega
  · go_wp2_with fail
    go_ret
    exact⟨⟨g,c,ds,rfl,by omega,HD.out,1+y,id,by omega,by omega,by omega,HGD.out⟩,cr,G⟩
end Go.Proofs.YtaaagmgglolibaaGreat
