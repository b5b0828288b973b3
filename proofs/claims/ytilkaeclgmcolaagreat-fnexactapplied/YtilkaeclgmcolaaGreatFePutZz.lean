import Derived.Test.YtilkaeclgmcolaaGreatMathZz
import Derived.Test.YtilkaeclgmcolaaGreatFeWalkZz
set_option maxRecDepth 100000
set_option maxHeartbeats 4000000
namespace Go.Proofs.YtilkaeclgmcolaaGreat
open Go Go.RowKit
theorem ZdH(xs:List Int)(n:Int):∀(k:Nat),k<=xs.length->(∀j,j<k->nth xs j<n)->(k=xs.length\/n<nth xs k)->ZaA xs n=xs.take k++n::xs.drop k:=by
 induction xs with
 | nil=>
   intro k b _ _
   obtain rfl:k=0:=by simpa using b
   simp [ZaA]
 | cons x xs ih=>
   intro k b c a
   cases k with
   | zero=>
     rcases a with a | a
     · simp at a
     · have:n<x:=by simpa [nth] using a
       simp only [ZaA]
       rw [if_neg (by omega),if_neg (by omega)]
       rfl
   | succ k=>
     have d:x<n:=by simpa [nth] using c 0 (by omega)
     simp only [ZaA]
     rw [if_pos d,ih k (by simpa using b) (fun j e=>by simpa [nth] using c (j+1) (by omega)) (by
      rcases a with a | a
      · left;simpa using a
      · right;simpa [nth] using a)]
     rfl
theorem Zmk(xs:List Int)(n:Int):∀(k:Nat),k<xs.length->(∀j,j<k->nth xs j<n)->nth xs k=n->ZaA xs n=xs:=by
 induction xs with
 | nil=>intro k a;simp at a
 | cons x xs ih=>
   intro k a b c
   cases k with
   | zero=>
     have:x=n:=by simpa [nth] using c
     simp only [ZaA]
     rw [if_neg (by omega),if_pos this]
   | succ k=>
     have d:x<n:=by simpa [nth] using b 0 (by omega)
     simp only [ZaA]
     rw [if_pos d,ih k (by simpa using a) (fun j e=>by simpa [nth] using b (j+1) (by omega)) (by simpa [nth] using c)]
theorem Row.cap14{base:Nat}{w:World}{g c:Nat}{xs:List Int}(h:Row base w g c xs):xs.length<=c:=by
 obtain⟨_,⟨a,_⟩ | ⟨e,d,b,a,_,_,f,_⟩⟩:=h
 · cases a
 · injection a with e1 e2 e3;omega
theorem Zeo{base:Nat}{w:World}{g c m:Nat}{ys:List Int}(h:Row base w g c ys)(hm:ys.length=m):ZX w 1 (some ⟨g,0,none⟩) m (ys.map (Value.int .i64)):=by
 subst hm
 exact Z9 h.view
theorem Zfy{w:World}{b:Nat}{xs:List Int}(h:Seg w b 0 xs)(k:Nat):Seg w b k (xs.drop k):=fun i hi=>by
 simp at hi
 have:=h (k+i) (by omega)
 rw [Nat.zero_add] at this
 rw [this]
 simp [nth,List.getD]
theorem ZdI{w:World}{b off:Nat}{xs:List Int}(h:Seg w b off xs)(k:Nat):Seg w b off (xs.take k):=fun i hi=>by
 simp at hi
 rw [h i (by omega)]
 simp [nth,List.getD,show i<k by omega]
theorem sPutI(base g c:Nat)(xs:List Int)(n:Int)(w:World)(hr:Row base w g c xs)(hb:base<=w.heap.size)(hn:xs.length<=1000):
 Calls Tryz.prog 188 #[.slice (some ⟨g,0,none⟩) xs.length c,.int .i64 n] w fun e w'=>∃g' c',e=.returned (.slice (some ⟨g',0,none⟩) (ZaA xs n).length c')/\Row base w' g' c' (ZaA xs n)/\Below w.heap.size w w'/\(g'=g\/w.heap.size<=g'):=by
 obtain⟨Q,v,u,y,x⟩:=info_parts Tryz.info2
 have aC:=hr.cap14
 have Z:=hr.lt2
 have HS:=Za hr.seg
 have HR:=Za hr
 clear hr
 go_enter Tryz.func188,Tryz.ntmps188
 go_wp2_with fail
 go_loop [5] (fun i=>∃k:Nat,k<=xs.length/\i=.int .i64 k/\∀j,j<k->nth xs j<n) (fun i=>xs.length-(intOf i).toNat)
 case atStart=>exact⟨0,Nat.zero_le _,rfl,fun j hj=>by omega⟩
 case round=>
  obtain⟨k,hk,rfl,ae⟩:=hrel
  have HA:=Za ae
  clear ae
  have aH:=n0Z k
  have aJ:(k:Int)<=(c:Int):=by omega
  have aF:(k:Int)<=(xs.length:Int):=by omega
  have aL:k<=c:=by omega
  have ar:(xs.drop k).length=xs.length-k:=by simp
  have ax:(xs.take k).length=k:=by simp;omega
  have A:=Za ar
  have C:=Za ax
  clear ar ax
  by_cases hlt:k<xs.length
  · have aA:=HS.out k hlt
    rw [Nat.zero_add] at aA
    have aI:(k:Int)<(xs.length:Int):=by omega
    have f1:decide ((k:Int)<(xs.length:Int))=true:=by simp;omega
    by_cases hl:nth xs k<n
    · have f2:decide (nth xs k<n)=true:=by simp;omega
      go_wp2_with fail
      go_round
      case rel=>exact⟨k+1,by omega,by go_num,fun j hj=>by
       rcases Nat.lt_or_ge j k with h | h
       · exact HA.out j h
       · obtain rfl:j=k:=by omega
         exact hl⟩
      case measure=>simp [intOf];omega
    · have f2:decide (nth xs k<n)=false:=by simp;omega
      by_cases he:nth xs k=n
      · have f3:(nth xs k ==n)=true:=by simp [he]
        have HE:=Za (Zmk xs n k hlt HA.out he)
        clear he
        go_wp2_with fail
        go_ret
        rw [HE.out]
        exact⟨g,c,rfl,HR.out,Below.refl _ _,Or.inl rfl⟩
      · have f3:(nth xs k ==n)=false:=by simp [he]
        have aM:¬c=k:=by omega
        skip
        have HE:=Za (ZdH xs n k hk HA.out (Or.inr (by omega)))
        have L1:Below w.heap.size w (w.alloc (.cells #[] 2)):=(Below.refl _ _).alloc (Nat.le_refl _) _
        have J:Hid (ZX (w.alloc (.cells #[] 2)) 1 (some ⟨g,k,none⟩) (xs.length-k) ((xs.drop k).map (Value.int .i64))):=by
         have h:=Z9 (w:=w.alloc (.cells #[] 2)) (ao:=some ⟨g,k,none⟩) (ys:=xs.drop k) (Or.inr ⟨g,k,rfl,by simp;omega,Seg.below (Zfy HS.out k) Z.2 L1⟩)
         rw [A.out] at h
         exact h
        have Y:=Za L1
        clear L1
        have F:Hid (∀a,Below w.heap.size w a->ZX (a.alloc (.cells #[] 2)) 1 (some ⟨g,0,none⟩) k ((xs.take k).map (Value.int .i64))):=fun a L3=>by
         have hz:=L3.size
         have T:=ZdI (Seg.below (Seg.below HS.out Z.2 L3) (B:=a.heap.size) (by omega) ((Below.refl a.heap.size a).alloc (Nat.le_refl _) (.cells #[] 2))) k
         have h:=Z9 (w:=a.alloc (.cells #[] 2)) (ao:=some ⟨g,0,none⟩) (ys:=xs.take k) (Or.inr ⟨g,0,rfl,by simp;omega,T⟩)
         rw [C.out] at h
         exact h
        go_wp2_with (at_builtin;first
         | (refine Zw _ rfl (.tmp 34) (.tmp 37) 31 rfl base 2 Q _ 1 8 Tryz.underlying31 v u y x rfl (by omega) w.heap.size 0 0 [] rfl (World.ownsRow_lit w #[] 0 hb (Nat.zero_le _) rfl) (some ⟨g,k,none⟩) (xs.length-k) (c-k) ((xs.drop k).map (Value.int .i64)) rfl J.out (by unfold maxLen;omega) (by omega) (by simp;omega) (w.heap.size+1) (by simp) ?_;intro E P a m f a9 ag;have K:Hid (Row base a E P (xs.drop k)):=Zbl m A.out.symm;have am:w.heap.size+1<=a.heap.size:=(by simpa using f.size);have G:Hid (Below w.heap.size w a):=Y.out.grown f (by simp) (by intro q z;cases z;exact Nat.le_refl _);have a5:E<a.heap.size:=K.out.lt2.2;have W:=Za (F.out a G.out);have V:=Za (K.out.next (B:=a.heap.size) ((Below.refl a.heap.size a).alloc (Nat.le_refl _) (.cells #[] 2)) a5);have R:=Za (Zb G.out ((Below.refl a.heap.size a).alloc (Nat.le_refl _) (.cells #[] 2)));clear m f)
         | (refine Zw _ rfl (.tmp 39) (.tmp 42) 31 rfl base 2 Q _ 1 8 Tryz.underlying31 v u y x rfl (by omega) a.heap.size 0 0 [] rfl (World.ownsRow_lit a #[] 0 (by omega) (Nat.zero_le _) rfl) (some ⟨g,0,none⟩) k c ((xs.take k).map (Value.int .i64)) rfl W.out (by unfold maxLen;omega) (by omega) (by simp;omega) (a.heap.size+1) (by simp) ?_;intro g4 c4 s r d N ad;rw [Nat.zero_add];have a1:Hid (Row base s g4 c4 (xs.take k)):=Zbl r C.out.symm;have aq:a.heap.size+1<=s.heap.size:=(by simpa using d.size);have U:Hid (Below w.heap.size w s):=R.out.grown d (by simp;omega) (by intro q z;cases z;omega);have L:Hid (Row base s E P (xs.drop k)):=V.out.keptBy d (by simp;omega);have a3:=Za (a1.out.keptBy (World.grownBy_alloc s (.cells #[.int .i64 n] 2) none) (by simp));have D:=Za (L.out.keptBy (World.grownBy_alloc s (.cells #[.int .i64 n] 2) none) (by simp));have a6:=Za (U.out.alloc (by omega) (.cells #[.int .i64 n] 2));have ap:a.heap.size<=g4:=(by rcases N with e | e <;> omega);clear r d)
         | (refine Zw _ rfl (.tmp 43) (.tmp 45) 31 rfl base 2 Q _ 1 8 Tryz.underlying31 v u y x rfl (by omega) g4 k c4 ((xs.take k).map (Value.int .i64)) rfl (Zg3 a3.out C.out) (some ⟨s.heap.size,0,none⟩) 1 1 [.int .i64 n] rfl (Ze6 (heap_alloc_new s _)) (by unfold maxLen;omega) (by omega) (by simp;omega) (s.heap.size+1) (by simp) ?_;intro g6 c6 O o b M ab;have ay:s.heap.size+1<=O.heap.size:=(by simpa using b.size);have a4:Hid (Below w.heap.size w O):=a6.out.grown b (by simp;omega) (by intro q z;cases z;omega);have H:Hid (Row base O E P (xs.drop k)):=D.out.keptBy b (by simp;omega);have S:=Za o;have an:a.heap.size<=g6:=(by rcases M with e | e <;> omega);have a0:=Za (Zeo H.out A.out);clear o b)
         | (refine Zw _ rfl (.tmp 46) (.tmp 47) 31 rfl base 2 Q _ 1 8 Tryz.underlying31 v u y x rfl (by omega) g6 (k+1) c6 ((xs.take k).map (Value.int .i64)++[.int .i64 n]) rfl S.out (some ⟨E,0,none⟩) (xs.length-k) P ((xs.drop k).map (Value.int .i64)) rfl a0.out (by unfold maxLen;omega) (by omega) (by omega) O.heap.size rfl ?_;intro g7 c7 w7 p l I ah;have a7:=Za p;have X:Hid (Below w.heap.size w w7):=a4.out.grown l (by omega) (by intro q z;cases z;omega);clear p l))
        go_ret
        rw [HE.out]
        have t:k+1+(xs.length-k)=(xs.take k++n::xs.drop k).length:=by simp;omega
        refine⟨g7,c7,by rw [<-t];rfl,?_,X.out,Or.inr (by rcases I with e | e <;> omega)⟩
        have h:=a7.out
        rw [t] at h
        unfold Row
        rw [show (xs.take k++n::xs.drop k).map (Value.int .i64)=(xs.take k).map (Value.int .i64)++[Value.int .i64 n]++(xs.drop k).map (Value.int .i64) by simp]
        exact h
  · have f1:decide ((k:Int)<(xs.length:Int))=false:=by simp;omega
    by_cases hce:c=k
    · skip
      have HE:=Za (ZdH xs n k hk HA.out (Or.inl (by omega)))
      have L1:Below w.heap.size w (w.alloc (.cells #[] 2)):=(Below.refl _ _).alloc (Nat.le_refl _) _
      have J:Hid (ZX (w.alloc (.cells #[] 2)) 1 (some ⟨g,0,none⟩) (xs.length-k) ((xs.drop k).map (Value.int .i64))):=by
       have h:=Z9 (w:=w.alloc (.cells #[] 2)) (ao:=some ⟨g,0,none⟩) (ys:=xs.drop k) (Or.inl (List.eq_nil_of_length_eq_zero (by rw [A.out];omega)))
       rw [A.out] at h
       exact h
      have Y:=Za L1
      clear L1
      have F:Hid (∀a,Below w.heap.size w a->ZX (a.alloc (.cells #[] 2)) 1 (some ⟨g,0,none⟩) k ((xs.take k).map (Value.int .i64))):=fun a L3=>by
       have hz:=L3.size
       have T:=ZdI (Seg.below (Seg.below HS.out Z.2 L3) (B:=a.heap.size) (by omega) ((Below.refl a.heap.size a).alloc (Nat.le_refl _) (.cells #[] 2))) k
       have h:=Z9 (w:=a.alloc (.cells #[] 2)) (ao:=some ⟨g,0,none⟩) (ys:=xs.take k) (Or.inr ⟨g,0,rfl,by simp;omega,T⟩)
       rw [C.out] at h
       exact h
      go_wp2_with (at_builtin;first
       | (refine Zw _ rfl (.tmp 34) (.tmp 37) 31 rfl base 2 Q _ 1 8 Tryz.underlying31 v u y x rfl (by omega) w.heap.size 0 0 [] rfl (World.ownsRow_lit w #[] 0 hb (Nat.zero_le _) rfl) (some ⟨g,0,none⟩) (xs.length-k) (0) ((xs.drop k).map (Value.int .i64)) rfl J.out (by unfold maxLen;omega) (by omega) (by simp;omega) (w.heap.size+1) (by simp) ?_;intro E P a m f a9 ag;have K:Hid (Row base a E P (xs.drop k)):=Zbl m A.out.symm;have am:w.heap.size+1<=a.heap.size:=(by simpa using f.size);have G:Hid (Below w.heap.size w a):=Y.out.grown f (by simp) (by intro q z;cases z;exact Nat.le_refl _);have a5:E<a.heap.size:=K.out.lt2.2;have W:=Za (F.out a G.out);have V:=Za (K.out.next (B:=a.heap.size) ((Below.refl a.heap.size a).alloc (Nat.le_refl _) (.cells #[] 2)) a5);have R:=Za (Zb G.out ((Below.refl a.heap.size a).alloc (Nat.le_refl _) (.cells #[] 2)));clear m f)
       | (refine Zw _ rfl (.tmp 39) (.tmp 42) 31 rfl base 2 Q _ 1 8 Tryz.underlying31 v u y x rfl (by omega) a.heap.size 0 0 [] rfl (World.ownsRow_lit a #[] 0 (by omega) (Nat.zero_le _) rfl) (some ⟨g,0,none⟩) k k ((xs.take k).map (Value.int .i64)) rfl W.out (by unfold maxLen;omega) (by omega) (by simp;omega) (a.heap.size+1) (by simp) ?_;intro g4 c4 s r d N ad;rw [Nat.zero_add];have a1:Hid (Row base s g4 c4 (xs.take k)):=Zbl r C.out.symm;have aq:a.heap.size+1<=s.heap.size:=(by simpa using d.size);have U:Hid (Below w.heap.size w s):=R.out.grown d (by simp;omega) (by intro q z;cases z;omega);have L:Hid (Row base s E P (xs.drop k)):=V.out.keptBy d (by simp;omega);have a3:=Za (a1.out.keptBy (World.grownBy_alloc s (.cells #[.int .i64 n] 2) none) (by simp));have D:=Za (L.out.keptBy (World.grownBy_alloc s (.cells #[.int .i64 n] 2) none) (by simp));have a6:=Za (U.out.alloc (by omega) (.cells #[.int .i64 n] 2));have ap:a.heap.size<=g4:=(by rcases N with e | e <;> omega);clear r d)
       | (refine Zw _ rfl (.tmp 43) (.tmp 45) 31 rfl base 2 Q _ 1 8 Tryz.underlying31 v u y x rfl (by omega) g4 k c4 ((xs.take k).map (Value.int .i64)) rfl (Zg3 a3.out C.out) (some ⟨s.heap.size,0,none⟩) 1 1 [.int .i64 n] rfl (Ze6 (heap_alloc_new s _)) (by unfold maxLen;omega) (by omega) (by simp;omega) (s.heap.size+1) (by simp) ?_;intro g6 c6 O o b M ab;have ay:s.heap.size+1<=O.heap.size:=(by simpa using b.size);have a4:Hid (Below w.heap.size w O):=a6.out.grown b (by simp;omega) (by intro q z;cases z;omega);have H:Hid (Row base O E P (xs.drop k)):=D.out.keptBy b (by simp;omega);have S:=Za o;have an:a.heap.size<=g6:=(by rcases M with e | e <;> omega);have a0:=Za (Zeo H.out A.out);clear o b)
       | (refine Zw _ rfl (.tmp 46) (.tmp 47) 31 rfl base 2 Q _ 1 8 Tryz.underlying31 v u y x rfl (by omega) g6 (k+1) c6 ((xs.take k).map (Value.int .i64)++[.int .i64 n]) rfl S.out (some ⟨E,0,none⟩) (xs.length-k) P ((xs.drop k).map (Value.int .i64)) rfl a0.out (by unfold maxLen;omega) (by omega) (by omega) O.heap.size rfl ?_;intro g7 c7 w7 p l I ah;have a7:=Za p;have X:Hid (Below w.heap.size w w7):=a4.out.grown l (by omega) (by intro q z;cases z;omega);clear p l))
      go_ret
      rw [HE.out]
      have t:k+1+(xs.length-k)=(xs.take k++n::xs.drop k).length:=by simp;omega
      refine⟨g7,c7,by rw [<-t];rfl,?_,X.out,Or.inr (by rcases I with e | e <;> omega)⟩
      have h:=a7.out
      rw [t] at h
      unfold Row
      rw [show (xs.take k++n::xs.drop k).map (Value.int .i64)=(xs.take k).map (Value.int .i64)++[Value.int .i64 n]++(xs.drop k).map (Value.int .i64) by simp]
      exact h
    · skip
      have HE:=Za (ZdH xs n k hk HA.out (Or.inl (by omega)))
      have L1:Below w.heap.size w (w.alloc (.cells #[] 2)):=(Below.refl _ _).alloc (Nat.le_refl _) _
      have J:Hid (ZX (w.alloc (.cells #[] 2)) 1 (some ⟨g,k,none⟩) (xs.length-k) ((xs.drop k).map (Value.int .i64))):=by
       have h:=Z9 (w:=w.alloc (.cells #[] 2)) (ao:=some ⟨g,k,none⟩) (ys:=xs.drop k) (Or.inr ⟨g,k,rfl,by simp;omega,Seg.below (Zfy HS.out k) Z.2 L1⟩)
       rw [A.out] at h
       exact h
      have Y:=Za L1
      clear L1
      have F:Hid (∀a,Below w.heap.size w a->ZX (a.alloc (.cells #[] 2)) 1 (some ⟨g,0,none⟩) k ((xs.take k).map (Value.int .i64))):=fun a L3=>by
       have hz:=L3.size
       have T:=ZdI (Seg.below (Seg.below HS.out Z.2 L3) (B:=a.heap.size) (by omega) ((Below.refl a.heap.size a).alloc (Nat.le_refl _) (.cells #[] 2))) k
       have h:=Z9 (w:=a.alloc (.cells #[] 2)) (ao:=some ⟨g,0,none⟩) (ys:=xs.take k) (Or.inr ⟨g,0,rfl,by simp;omega,T⟩)
       rw [C.out] at h
       exact h
      go_wp2_with (at_builtin;first
       | (refine Zw _ rfl (.tmp 34) (.tmp 37) 31 rfl base 2 Q _ 1 8 Tryz.underlying31 v u y x rfl (by omega) w.heap.size 0 0 [] rfl (World.ownsRow_lit w #[] 0 hb (Nat.zero_le _) rfl) (some ⟨g,k,none⟩) (xs.length-k) (c-k) ((xs.drop k).map (Value.int .i64)) rfl J.out (by unfold maxLen;omega) (by omega) (by simp;omega) (w.heap.size+1) (by simp) ?_;intro E P a m f a9 ag;have K:Hid (Row base a E P (xs.drop k)):=Zbl m A.out.symm;have am:w.heap.size+1<=a.heap.size:=(by simpa using f.size);have G:Hid (Below w.heap.size w a):=Y.out.grown f (by simp) (by intro q z;cases z;exact Nat.le_refl _);have a5:E<a.heap.size:=K.out.lt2.2;have W:=Za (F.out a G.out);have V:=Za (K.out.next (B:=a.heap.size) ((Below.refl a.heap.size a).alloc (Nat.le_refl _) (.cells #[] 2)) a5);have R:=Za (Zb G.out ((Below.refl a.heap.size a).alloc (Nat.le_refl _) (.cells #[] 2)));clear m f)
       | (refine Zw _ rfl (.tmp 39) (.tmp 42) 31 rfl base 2 Q _ 1 8 Tryz.underlying31 v u y x rfl (by omega) a.heap.size 0 0 [] rfl (World.ownsRow_lit a #[] 0 (by omega) (Nat.zero_le _) rfl) (some ⟨g,0,none⟩) k c ((xs.take k).map (Value.int .i64)) rfl W.out (by unfold maxLen;omega) (by omega) (by simp;omega) (a.heap.size+1) (by simp) ?_;intro g4 c4 s r d N ad;rw [Nat.zero_add];have a1:Hid (Row base s g4 c4 (xs.take k)):=Zbl r C.out.symm;have aq:a.heap.size+1<=s.heap.size:=(by simpa using d.size);have U:Hid (Below w.heap.size w s):=R.out.grown d (by simp;omega) (by intro q z;cases z;omega);have L:Hid (Row base s E P (xs.drop k)):=V.out.keptBy d (by simp;omega);have a3:=Za (a1.out.keptBy (World.grownBy_alloc s (.cells #[.int .i64 n] 2) none) (by simp));have D:=Za (L.out.keptBy (World.grownBy_alloc s (.cells #[.int .i64 n] 2) none) (by simp));have a6:=Za (U.out.alloc (by omega) (.cells #[.int .i64 n] 2));have ap:a.heap.size<=g4:=(by rcases N with e | e <;> omega);clear r d)
       | (refine Zw _ rfl (.tmp 43) (.tmp 45) 31 rfl base 2 Q _ 1 8 Tryz.underlying31 v u y x rfl (by omega) g4 k c4 ((xs.take k).map (Value.int .i64)) rfl (Zg3 a3.out C.out) (some ⟨s.heap.size,0,none⟩) 1 1 [.int .i64 n] rfl (Ze6 (heap_alloc_new s _)) (by unfold maxLen;omega) (by omega) (by simp;omega) (s.heap.size+1) (by simp) ?_;intro g6 c6 O o b M ab;have ay:s.heap.size+1<=O.heap.size:=(by simpa using b.size);have a4:Hid (Below w.heap.size w O):=a6.out.grown b (by simp;omega) (by intro q z;cases z;omega);have H:Hid (Row base O E P (xs.drop k)):=D.out.keptBy b (by simp;omega);have S:=Za o;have an:a.heap.size<=g6:=(by rcases M with e | e <;> omega);have a0:=Za (Zeo H.out A.out);clear o b)
       | (refine Zw _ rfl (.tmp 46) (.tmp 47) 31 rfl base 2 Q _ 1 8 Tryz.underlying31 v u y x rfl (by omega) g6 (k+1) c6 ((xs.take k).map (Value.int .i64)++[.int .i64 n]) rfl S.out (some ⟨E,0,none⟩) (xs.length-k) P ((xs.drop k).map (Value.int .i64)) rfl a0.out (by unfold maxLen;omega) (by omega) (by omega) O.heap.size rfl ?_;intro g7 c7 w7 p l I ah;have a7:=Za p;have X:Hid (Below w.heap.size w w7):=a4.out.grown l (by omega) (by intro q z;cases z;omega);clear p l))
      go_ret
      rw [HE.out]
      have t:k+1+(xs.length-k)=(xs.take k++n::xs.drop k).length:=by simp;omega
      refine⟨g7,c7,by rw [<-t];rfl,?_,X.out,Or.inr (by rcases I with e | e <;> omega)⟩
      have h:=a7.out
      rw [t] at h
      unfold Row
      rw [show (xs.take k++n::xs.drop k).map (Value.int .i64)=(xs.take k).map (Value.int .i64)++[Value.int .i64 n]++(xs.drop k).map (Value.int .i64) by simp]
      exact h
end Go.Proofs.YtilkaeclgmcolaaGreat
