import Derived.Test.YtaaagmgglolibaaGreatMathZz
import Derived.Test.YtaaagmgglolibaaGreatFeWalkZz
set_option maxRecDepth 100000
set_option maxHeartbeats 4000000
namespace Go.Proofs.YtaaagmgglolibaaGreat
open Go Go.RowKit
theorem Zdr(xs:List Int)(n:Int):∀(k:Nat),k<=xs.length->(∀j,j<k->nth xs j<n)->(k=xs.length\/n<nth xs k)->Zaw xs n=xs.take k++n::xs.drop k:=by
 induction xs with
 | nil=>
   intro k hk _ _
   obtain rfl:k=0:=by simpa using hk
   simp [Zaw]
 | cons x xs ih=>
   intro k hk h1 h2
   cases k with
   | zero=>
     rcases h2 with h2 | h2
     · simp at h2
     · have:n<x:=by simpa [nth] using h2
       simp only [Zaw]
       rw [if_neg (by omega),if_neg (by omega)]
       rfl
   | succ k=>
     have hx:x<n:=by simpa [nth] using h1 0 (by omega)
     simp only [Zaw]
     rw [if_pos hx,ih k (by simpa using hk) (fun j hj=>by simpa [nth] using h1 (j+1) (by omega)) (by
      rcases h2 with h2 | h2
      · left;simpa using h2
      · right;simpa [nth] using h2)]
     rfl
theorem Zlf(xs:List Int)(n:Int):∀(k:Nat),k<xs.length->(∀j,j<k->nth xs j<n)->nth xs k=n->Zaw xs n=xs:=by
 induction xs with
 | nil=>intro k hk;simp at hk
 | cons x xs ih=>
   intro k hk h1 h2
   cases k with
   | zero=>
     have:x=n:=by simpa [nth] using h2
     simp only [Zaw]
     rw [if_neg (by omega),if_pos this]
   | succ k=>
     have hx:x<n:=by simpa [nth] using h1 0 (by omega)
     simp only [Zaw]
     rw [if_pos hx,ih k (by simpa using hk) (fun j hj=>by simpa [nth] using h1 (j+1) (by omega)) (by simpa [nth] using h2)]
theorem Row.cap14{base:Nat}{w:World}{g c:Nat}{xs:List Int}(h:Row base w g c xs):xs.length<=c:=by
 obtain⟨_,⟨h1,_⟩ | ⟨g',c',cur,h1,_,_,h2,_⟩⟩:=h
 · cases h1
 · injection h1 with e1 e2 e3;omega
theorem Zea{base:Nat}{w:World}{g c m:Nat}{ys:List Int}(h:Row base w g c ys)(hm:ys.length=m):ZV w 1 (some ⟨g,0,none⟩) m (ys.map (Value.int .i64)):=by
 subst hm
 exact ZY h.view
theorem Ze7{w:World}{b:Nat}{xs:List Int}(h:Seg w b 0 xs)(k:Nat):Seg w b k (xs.drop k):=fun i hi=>by
 simp at hi
 have:=h (k+i) (by omega)
 rw [Nat.zero_add] at this
 rw [this]
 simp [nth,List.getD]
theorem Zds{w:World}{b off:Nat}{xs:List Int}(h:Seg w b off xs)(k:Nat):Seg w b off (xs.take k):=fun i hi=>by
 simp at hi
 rw [h i (by omega)]
 simp [nth,List.getD,show i<k by omega]
theorem sPutI(base g c:Nat)(xs:List Int)(n:Int)(w:World)(hr:Row base w g c xs)(hb:base<=w.heap.size)(hn:xs.length<=1000):
 Calls Tryz.prog 246 #[.slice (some ⟨g,0,none⟩) xs.length c,.int .i64 n] w fun e w'=>∃g' c',e=.returned (.slice (some ⟨g',0,none⟩) (Zaw xs n).length c')/\Row base w' g' c' (Zaw xs n)/\Below w.heap.size w w'/\(g'=g\/w.heap.size<=g'):=by
 obtain⟨i0,hi0,hx0,hx1,hx2⟩:=info_parts Tryz.info2
 have hcap:=hr.cap14
 have hgl:=hr.lt2
 have HS:=Za hr.seg
 have HR:=Za hr
 clear hr
 go_enter Tryz.func246,Tryz.ntmps246
 go_wp2_with fail
 go_loop [5] (fun i=>∃k:Nat,k<=xs.length/\i=.int .i64 k/\∀j,j<k->nth xs j<n) (fun i=>xs.length-(intOf i).toNat)
 case atStart=>exact⟨0,Nat.zero_le _,rfl,fun j hj=>by omega⟩
 case round=>
  obtain⟨k,hk,rfl,hall⟩:=hrel
  have HA:=Za hall
  clear hall
  have hk3:(0:Int)<=(k:Int):=Int.natCast_nonneg _
  have hk1:(k:Int)<=(c:Int):=by omega
  have hk2:(k:Int)<=(xs.length:Int):=by omega
  have hk4:k<=c:=by omega
  have hdl:(xs.drop k).length=xs.length-k:=by simp
  have htl:(xs.take k).length=k:=by simp;omega
  have HDL:=Za hdl
  have HTL:=Za htl
  clear hdl htl
  by_cases hlt:k<xs.length
  · have hck:=HS.out k hlt
    rw [Nat.zero_add] at hck
    have hk5:(k:Int)<(xs.length:Int):=by omega
    have f1:decide ((k:Int)<(xs.length:Int))=true:=by simp;omega
    by_cases hl:nth xs k<n
    · have f2:decide (nth xs k<n)=true:=by simp;omega
      go_wp2_with fail
      go_round
      case rel=>exact⟨k+1,by omega,by go_num,fun j hj=>by
       rcases Nat.lt_or_ge j k with h | h
       · exact HA.out j h
       · obtain rfl:j=k:=by omega
         exact hl⟩
      case measure=>simp [intOf];omega
    · have f2:decide (nth xs k<n)=false:=by simp;omega
      by_cases he:nth xs k=n
      · have f3:(nth xs k ==n)=true:=by simp [he]
        have HE:=Za (Zlf xs n k hlt HA.out he)
        clear he
        go_wp2_with fail
        go_ret
        rw [HE.out]
        exact⟨g,c,rfl,HR.out,Below.refl _ _,Or.inl rfl⟩
      · have f3:(nth xs k ==n)=false:=by simp [he]
        have hne:¬c=k:=by omega
        skip
        have HE:=Za (Zdr xs n k hk HA.out (Or.inr (by omega)))
        have L1:Below w.heap.size w (w.alloc (.cells #[] 2)):=(Below.refl _ _).alloc (Nat.le_refl _) _
        have HSRC:Hid (ZV (w.alloc (.cells #[] 2)) 1 (some ⟨g,k,none⟩) (xs.length-k) ((xs.drop k).map (Value.int .i64))):=by
         have h:=ZY (w:=w.alloc (.cells #[] 2)) (ao:=some ⟨g,k,none⟩) (ys:=xs.drop k) (Or.inr ⟨g,k,rfl,by simp;omega,Seg.below (Ze7 HS.out k) hgl.2 L1⟩)
         rw [HDL.out] at h
         exact h
        have HL1:=Za L1
        clear L1
        have HKEY:Hid (∀w3,Below w.heap.size w w3->ZV (w3.alloc (.cells #[] 2)) 1 (some ⟨g,0,none⟩) k ((xs.take k).map (Value.int .i64))):=fun w3 L3=>by
         have hz:=L3.size
         have hsg:=Zds (Seg.below (Seg.below HS.out hgl.2 L3) (B:=w3.heap.size) (by omega) ((Below.refl w3.heap.size w3).alloc (Nat.le_refl _) (.cells #[] 2))) k
         have h:=ZY (w:=w3.alloc (.cells #[] 2)) (ao:=some ⟨g,0,none⟩) (ys:=xs.take k) (Or.inr ⟨g,0,rfl,by simp;omega,hsg⟩)
         rw [HTL.out] at h
         exact h
        go_wp2_with (at_builtin;first
         | (refine Zx _ rfl (.tmp 34) (.tmp 37) 27 rfl base 2 i0 _ 1 8 Tryz.underlying27 hi0 hx0 hx1 hx2 rfl (by omega) w.heap.size 0 0 [] rfl (World.ownsRow_lit w #[] 0 hb (Nat.zero_le _) rfl) (some ⟨g,k,none⟩) (xs.length-k) (c-k) ((xs.drop k).map (Value.int .i64)) rfl HSRC.out (by unfold maxLen;omega) (by omega) (by simp;omega) (w.heap.size+1) (by simp) ?_;intro gr cr w3 hownr hgrowr hatr hltr;have HR3:Hid (Row base w3 gr cr (xs.drop k)):=Zbm hownr HDL.out.symm;have hz3:w.heap.size+1<=w3.heap.size:=(by simpa using hgrowr.size);have HL3:Hid (Below w.heap.size w w3):=HL1.out.grown hgrowr (by simp) (by intro q hq;cases hq;exact Nat.le_refl _);have hgr:gr<w3.heap.size:=HR3.out.lt2.2;have HK3:=Za (HKEY.out w3 HL3.out);have HRA:=Za (HR3.out.next (B:=w3.heap.size) ((Below.refl w3.heap.size w3).alloc (Nat.le_refl _) (.cells #[] 2)) hgr);have HLA:=Za (Zd HL3.out ((Below.refl w3.heap.size w3).alloc (Nat.le_refl _) (.cells #[] 2)));clear hownr hgrowr)
         | (refine Zx _ rfl (.tmp 39) (.tmp 42) 27 rfl base 2 i0 _ 1 8 Tryz.underlying27 hi0 hx0 hx1 hx2 rfl (by omega) w3.heap.size 0 0 [] rfl (World.ownsRow_lit w3 #[] 0 (by omega) (Nat.zero_le _) rfl) (some ⟨g,0,none⟩) k c ((xs.take k).map (Value.int .i64)) rfl HK3.out (by unfold maxLen;omega) (by omega) (by simp;omega) (w3.heap.size+1) (by simp) ?_;intro g4 c4 w4 hown4 hgrow4 hat4 hlt4;rw [Nat.zero_add];have HR4:Hid (Row base w4 g4 c4 (xs.take k)):=Zbm hown4 HTL.out.symm;have hz4:w3.heap.size+1<=w4.heap.size:=(by simpa using hgrow4.size);have HL4:Hid (Below w.heap.size w w4):=HLA.out.grown hgrow4 (by simp;omega) (by intro q hq;cases hq;omega);have HR44:Hid (Row base w4 gr cr (xs.drop k)):=HRA.out.keptBy hgrow4 (by simp;omega);have HR5:=Za (HR4.out.keptBy (World.grownBy_alloc w4 (.cells #[.int .i64 n] 2) none) (by simp));have HR55:=Za (HR44.out.keptBy (World.grownBy_alloc w4 (.cells #[.int .i64 n] 2) none) (by simp));have HL5:=Za (HL4.out.alloc (by omega) (.cells #[.int .i64 n] 2));have hg4:w3.heap.size<=g4:=(by rcases hat4 with e | e <;> omega);clear hown4 hgrow4)
         | (refine Zx _ rfl (.tmp 43) (.tmp 45) 27 rfl base 2 i0 _ 1 8 Tryz.underlying27 hi0 hx0 hx1 hx2 rfl (by omega) g4 k c4 ((xs.take k).map (Value.int .i64)) rfl (Zgx HR5.out HTL.out) (some ⟨w4.heap.size,0,none⟩) 1 1 [.int .i64 n] rfl (ZeI (heap_alloc_new w4 _)) (by unfold maxLen;omega) (by omega) (by simp;omega) (w4.heap.size+1) (by simp) ?_;intro g6 c6 w6 hown6 hgrow6 hat6 hlt6;have hz6:w4.heap.size+1<=w6.heap.size:=(by simpa using hgrow6.size);have HL6:Hid (Below w.heap.size w w6):=HL5.out.grown hgrow6 (by simp;omega) (by intro q hq;cases hq;omega);have HR66:Hid (Row base w6 gr cr (xs.drop k)):=HR55.out.keptBy hgrow6 (by simp;omega);have HO6:=Za hown6;have hg6:w3.heap.size<=g6:=(by rcases hat6 with e | e <;> omega);have HS6:=Za (Zea HR66.out HDL.out);clear hown6 hgrow6)
         | (refine Zx _ rfl (.tmp 46) (.tmp 47) 27 rfl base 2 i0 _ 1 8 Tryz.underlying27 hi0 hx0 hx1 hx2 rfl (by omega) g6 (k+1) c6 ((xs.take k).map (Value.int .i64)++[.int .i64 n]) rfl HO6.out (some ⟨gr,0,none⟩) (xs.length-k) cr ((xs.drop k).map (Value.int .i64)) rfl HS6.out (by unfold maxLen;omega) (by omega) (by omega) w6.heap.size rfl ?_;intro g7 c7 w7 hown7 hgrow7 hat7 hlt7;have HO7:=Za hown7;have HL7:Hid (Below w.heap.size w w7):=HL6.out.grown hgrow7 (by omega) (by intro q hq;cases hq;omega);clear hown7 hgrow7))
        go_ret
        rw [HE.out]
        have hlen:k+1+(xs.length-k)=(xs.take k++n::xs.drop k).length:=by simp;omega
        refine⟨g7,c7,by rw [<-hlen];rfl,?_,HL7.out,Or.inr (by rcases hat7 with e | e <;> omega)⟩
        have h:=HO7.out
        rw [hlen] at h
        unfold Row
        rw [show (xs.take k++n::xs.drop k).map (Value.int .i64)=(xs.take k).map (Value.int .i64)++[Value.int .i64 n]++(xs.drop k).map (Value.int .i64) by simp]
        exact h
  · have f1:decide ((k:Int)<(xs.length:Int))=false:=by simp;omega
    by_cases hce:c=k
    · skip
      have HE:=Za (Zdr xs n k hk HA.out (Or.inl (by omega)))
      have L1:Below w.heap.size w (w.alloc (.cells #[] 2)):=(Below.refl _ _).alloc (Nat.le_refl _) _
      have HSRC:Hid (ZV (w.alloc (.cells #[] 2)) 1 (some ⟨g,0,none⟩) (xs.length-k) ((xs.drop k).map (Value.int .i64))):=by
       have h:=ZY (w:=w.alloc (.cells #[] 2)) (ao:=some ⟨g,0,none⟩) (ys:=xs.drop k) (Or.inl (List.eq_nil_of_length_eq_zero (by rw [HDL.out];omega)))
       rw [HDL.out] at h
       exact h
      have HL1:=Za L1
      clear L1
      have HKEY:Hid (∀w3,Below w.heap.size w w3->ZV (w3.alloc (.cells #[] 2)) 1 (some ⟨g,0,none⟩) k ((xs.take k).map (Value.int .i64))):=fun w3 L3=>by
       have hz:=L3.size
       have hsg:=Zds (Seg.below (Seg.below HS.out hgl.2 L3) (B:=w3.heap.size) (by omega) ((Below.refl w3.heap.size w3).alloc (Nat.le_refl _) (.cells #[] 2))) k
       have h:=ZY (w:=w3.alloc (.cells #[] 2)) (ao:=some ⟨g,0,none⟩) (ys:=xs.take k) (Or.inr ⟨g,0,rfl,by simp;omega,hsg⟩)
       rw [HTL.out] at h
       exact h
      go_wp2_with (at_builtin;first
       | (refine Zx _ rfl (.tmp 34) (.tmp 37) 27 rfl base 2 i0 _ 1 8 Tryz.underlying27 hi0 hx0 hx1 hx2 rfl (by omega) w.heap.size 0 0 [] rfl (World.ownsRow_lit w #[] 0 hb (Nat.zero_le _) rfl) (some ⟨g,0,none⟩) (xs.length-k) (0) ((xs.drop k).map (Value.int .i64)) rfl HSRC.out (by unfold maxLen;omega) (by omega) (by simp;omega) (w.heap.size+1) (by simp) ?_;intro gr cr w3 hownr hgrowr hatr hltr;have HR3:Hid (Row base w3 gr cr (xs.drop k)):=Zbm hownr HDL.out.symm;have hz3:w.heap.size+1<=w3.heap.size:=(by simpa using hgrowr.size);have HL3:Hid (Below w.heap.size w w3):=HL1.out.grown hgrowr (by simp) (by intro q hq;cases hq;exact Nat.le_refl _);have hgr:gr<w3.heap.size:=HR3.out.lt2.2;have HK3:=Za (HKEY.out w3 HL3.out);have HRA:=Za (HR3.out.next (B:=w3.heap.size) ((Below.refl w3.heap.size w3).alloc (Nat.le_refl _) (.cells #[] 2)) hgr);have HLA:=Za (Zd HL3.out ((Below.refl w3.heap.size w3).alloc (Nat.le_refl _) (.cells #[] 2)));clear hownr hgrowr)
       | (refine Zx _ rfl (.tmp 39) (.tmp 42) 27 rfl base 2 i0 _ 1 8 Tryz.underlying27 hi0 hx0 hx1 hx2 rfl (by omega) w3.heap.size 0 0 [] rfl (World.ownsRow_lit w3 #[] 0 (by omega) (Nat.zero_le _) rfl) (some ⟨g,0,none⟩) k k ((xs.take k).map (Value.int .i64)) rfl HK3.out (by unfold maxLen;omega) (by omega) (by simp;omega) (w3.heap.size+1) (by simp) ?_;intro g4 c4 w4 hown4 hgrow4 hat4 hlt4;rw [Nat.zero_add];have HR4:Hid (Row base w4 g4 c4 (xs.take k)):=Zbm hown4 HTL.out.symm;have hz4:w3.heap.size+1<=w4.heap.size:=(by simpa using hgrow4.size);have HL4:Hid (Below w.heap.size w w4):=HLA.out.grown hgrow4 (by simp;omega) (by intro q hq;cases hq;omega);have HR44:Hid (Row base w4 gr cr (xs.drop k)):=HRA.out.keptBy hgrow4 (by simp;omega);have HR5:=Za (HR4.out.keptBy (World.grownBy_alloc w4 (.cells #[.int .i64 n] 2) none) (by simp));have HR55:=Za (HR44.out.keptBy (World.grownBy_alloc w4 (.cells #[.int .i64 n] 2) none) (by simp));have HL5:=Za (HL4.out.alloc (by omega) (.cells #[.int .i64 n] 2));have hg4:w3.heap.size<=g4:=(by rcases hat4 with e | e <;> omega);clear hown4 hgrow4)
       | (refine Zx _ rfl (.tmp 43) (.tmp 45) 27 rfl base 2 i0 _ 1 8 Tryz.underlying27 hi0 hx0 hx1 hx2 rfl (by omega) g4 k c4 ((xs.take k).map (Value.int .i64)) rfl (Zgx HR5.out HTL.out) (some ⟨w4.heap.size,0,none⟩) 1 1 [.int .i64 n] rfl (ZeI (heap_alloc_new w4 _)) (by unfold maxLen;omega) (by omega) (by simp;omega) (w4.heap.size+1) (by simp) ?_;intro g6 c6 w6 hown6 hgrow6 hat6 hlt6;have hz6:w4.heap.size+1<=w6.heap.size:=(by simpa using hgrow6.size);have HL6:Hid (Below w.heap.size w w6):=HL5.out.grown hgrow6 (by simp;omega) (by intro q hq;cases hq;omega);have HR66:Hid (Row base w6 gr cr (xs.drop k)):=HR55.out.keptBy hgrow6 (by simp;omega);have HO6:=Za hown6;have hg6:w3.heap.size<=g6:=(by rcases hat6 with e | e <;> omega);have HS6:=Za (Zea HR66.out HDL.out);clear hown6 hgrow6)
       | (refine Zx _ rfl (.tmp 46) (.tmp 47) 27 rfl base 2 i0 _ 1 8 Tryz.underlying27 hi0 hx0 hx1 hx2 rfl (by omega) g6 (k+1) c6 ((xs.take k).map (Value.int .i64)++[.int .i64 n]) rfl HO6.out (some ⟨gr,0,none⟩) (xs.length-k) cr ((xs.drop k).map (Value.int .i64)) rfl HS6.out (by unfold maxLen;omega) (by omega) (by omega) w6.heap.size rfl ?_;intro g7 c7 w7 hown7 hgrow7 hat7 hlt7;have HO7:=Za hown7;have HL7:Hid (Below w.heap.size w w7):=HL6.out.grown hgrow7 (by omega) (by intro q hq;cases hq;omega);clear hown7 hgrow7))
      go_ret
      rw [HE.out]
      have hlen:k+1+(xs.length-k)=(xs.take k++n::xs.drop k).length:=by simp;omega
      refine⟨g7,c7,by rw [<-hlen];rfl,?_,HL7.out,Or.inr (by rcases hat7 with e | e <;> omega)⟩
      have h:=HO7.out
      rw [hlen] at h
      unfold Row
      rw [show (xs.take k++n::xs.drop k).map (Value.int .i64)=(xs.take k).map (Value.int .i64)++[Value.int .i64 n]++(xs.drop k).map (Value.int .i64) by simp]
      exact h
    · skip
      have HE:=Za (Zdr xs n k hk HA.out (Or.inl (by omega)))
      have L1:Below w.heap.size w (w.alloc (.cells #[] 2)):=(Below.refl _ _).alloc (Nat.le_refl _) _
      have HSRC:Hid (ZV (w.alloc (.cells #[] 2)) 1 (some ⟨g,k,none⟩) (xs.length-k) ((xs.drop k).map (Value.int .i64))):=by
       have h:=ZY (w:=w.alloc (.cells #[] 2)) (ao:=some ⟨g,k,none⟩) (ys:=xs.drop k) (Or.inr ⟨g,k,rfl,by simp;omega,Seg.below (Ze7 HS.out k) hgl.2 L1⟩)
       rw [HDL.out] at h
       exact h
      have HL1:=Za L1
      clear L1
      have HKEY:Hid (∀w3,Below w.heap.size w w3->ZV (w3.alloc (.cells #[] 2)) 1 (some ⟨g,0,none⟩) k ((xs.take k).map (Value.int .i64))):=fun w3 L3=>by
       have hz:=L3.size
       have hsg:=Zds (Seg.below (Seg.below HS.out hgl.2 L3) (B:=w3.heap.size) (by omega) ((Below.refl w3.heap.size w3).alloc (Nat.le_refl _) (.cells #[] 2))) k
       have h:=ZY (w:=w3.alloc (.cells #[] 2)) (ao:=some ⟨g,0,none⟩) (ys:=xs.take k) (Or.inr ⟨g,0,rfl,by simp;omega,hsg⟩)
       rw [HTL.out] at h
       exact h
      go_wp2_with (at_builtin;first
       | (refine Zx _ rfl (.tmp 34) (.tmp 37) 27 rfl base 2 i0 _ 1 8 Tryz.underlying27 hi0 hx0 hx1 hx2 rfl (by omega) w.heap.size 0 0 [] rfl (World.ownsRow_lit w #[] 0 hb (Nat.zero_le _) rfl) (some ⟨g,k,none⟩) (xs.length-k) (c-k) ((xs.drop k).map (Value.int .i64)) rfl HSRC.out (by unfold maxLen;omega) (by omega) (by simp;omega) (w.heap.size+1) (by simp) ?_;intro gr cr w3 hownr hgrowr hatr hltr;have HR3:Hid (Row base w3 gr cr (xs.drop k)):=Zbm hownr HDL.out.symm;have hz3:w.heap.size+1<=w3.heap.size:=(by simpa using hgrowr.size);have HL3:Hid (Below w.heap.size w w3):=HL1.out.grown hgrowr (by simp) (by intro q hq;cases hq;exact Nat.le_refl _);have hgr:gr<w3.heap.size:=HR3.out.lt2.2;have HK3:=Za (HKEY.out w3 HL3.out);have HRA:=Za (HR3.out.next (B:=w3.heap.size) ((Below.refl w3.heap.size w3).alloc (Nat.le_refl _) (.cells #[] 2)) hgr);have HLA:=Za (Zd HL3.out ((Below.refl w3.heap.size w3).alloc (Nat.le_refl _) (.cells #[] 2)));clear hownr hgrowr)
       | (refine Zx _ rfl (.tmp 39) (.tmp 42) 27 rfl base 2 i0 _ 1 8 Tryz.underlying27 hi0 hx0 hx1 hx2 rfl (by omega) w3.heap.size 0 0 [] rfl (World.ownsRow_lit w3 #[] 0 (by omega) (Nat.zero_le _) rfl) (some ⟨g,0,none⟩) k c ((xs.take k).map (Value.int .i64)) rfl HK3.out (by unfold maxLen;omega) (by omega) (by simp;omega) (w3.heap.size+1) (by simp) ?_;intro g4 c4 w4 hown4 hgrow4 hat4 hlt4;rw [Nat.zero_add];have HR4:Hid (Row base w4 g4 c4 (xs.take k)):=Zbm hown4 HTL.out.symm;have hz4:w3.heap.size+1<=w4.heap.size:=(by simpa using hgrow4.size);have HL4:Hid (Below w.heap.size w w4):=HLA.out.grown hgrow4 (by simp;omega) (by intro q hq;cases hq;omega);have HR44:Hid (Row base w4 gr cr (xs.drop k)):=HRA.out.keptBy hgrow4 (by simp;omega);have HR5:=Za (HR4.out.keptBy (World.grownBy_alloc w4 (.cells #[.int .i64 n] 2) none) (by simp));have HR55:=Za (HR44.out.keptBy (World.grownBy_alloc w4 (.cells #[.int .i64 n] 2) none) (by simp));have HL5:=Za (HL4.out.alloc (by omega) (.cells #[.int .i64 n] 2));have hg4:w3.heap.size<=g4:=(by rcases hat4 with e | e <;> omega);clear hown4 hgrow4)
       | (refine Zx _ rfl (.tmp 43) (.tmp 45) 27 rfl base 2 i0 _ 1 8 Tryz.underlying27 hi0 hx0 hx1 hx2 rfl (by omega) g4 k c4 ((xs.take k).map (Value.int .i64)) rfl (Zgx HR5.out HTL.out) (some ⟨w4.heap.size,0,none⟩) 1 1 [.int .i64 n] rfl (ZeI (heap_alloc_new w4 _)) (by unfold maxLen;omega) (by omega) (by simp;omega) (w4.heap.size+1) (by simp) ?_;intro g6 c6 w6 hown6 hgrow6 hat6 hlt6;have hz6:w4.heap.size+1<=w6.heap.size:=(by simpa using hgrow6.size);have HL6:Hid (Below w.heap.size w w6):=HL5.out.grown hgrow6 (by simp;omega) (by intro q hq;cases hq;omega);have HR66:Hid (Row base w6 gr cr (xs.drop k)):=HR55.out.keptBy hgrow6 (by simp;omega);have HO6:=Za hown6;have hg6:w3.heap.size<=g6:=(by rcases hat6 with e | e <;> omega);have HS6:=Za (Zea HR66.out HDL.out);clear hown6 hgrow6)
       | (refine Zx _ rfl (.tmp 46) (.tmp 47) 27 rfl base 2 i0 _ 1 8 Tryz.underlying27 hi0 hx0 hx1 hx2 rfl (by omega) g6 (k+1) c6 ((xs.take k).map (Value.int .i64)++[.int .i64 n]) rfl HO6.out (some ⟨gr,0,none⟩) (xs.length-k) cr ((xs.drop k).map (Value.int .i64)) rfl HS6.out (by unfold maxLen;omega) (by omega) (by omega) w6.heap.size rfl ?_;intro g7 c7 w7 hown7 hgrow7 hat7 hlt7;have HO7:=Za hown7;have HL7:Hid (Below w.heap.size w w7):=HL6.out.grown hgrow7 (by omega) (by intro q hq;cases hq;omega);clear hown7 hgrow7))
      go_ret
      rw [HE.out]
      have hlen:k+1+(xs.length-k)=(xs.take k++n::xs.drop k).length:=by simp;omega
      refine⟨g7,c7,by rw [<-hlen];rfl,?_,HL7.out,Or.inr (by rcases hat7 with e | e <;> omega)⟩
      have h:=HO7.out
      rw [hlen] at h
      unfold Row
      rw [show (xs.take k++n::xs.drop k).map (Value.int .i64)=(xs.take k).map (Value.int .i64)++[Value.int .i64 n]++(xs.drop k).map (Value.int .i64) by simp]
      exact h
end Go.Proofs.YtaaagmgglolibaaGreat
