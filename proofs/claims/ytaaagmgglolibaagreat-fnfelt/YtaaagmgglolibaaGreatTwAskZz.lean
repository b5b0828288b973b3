import Derived.Test.YtaaagmgglolibaaGreatTwOkZz
import Derived.Test.YtaaagmgglolibaaGreatMathZz
import Derived.Test.YtaaagmgglolibaaGreatFeBmZz
import Derived.Deep.CutRange
import Derived.Deep.CutBlock
import Derived.Test.YtaaagmgglolibaaGreatFgRowZz
import Derived.Test.YtaaagmgglolibaaGreatKSuitZz
import Derived.Test.YtaaagmgglolibaaGreatLastZz
set_option maxRecDepth 100000
set_option maxHeartbeats 8000000
namespace Go.Proofs.YtaaagmgglolibaaGreat
open Go Go.RowKit
def Zex (l : List Int) : Int := nth l (l.length - 1)
def ZhP (t : Wb) (q : List Int) (fr : Int) : Int := if t.1.length = 0 then fr else Zex (Zac t.1 t.2 q (if fr = 0 then mid t.1 0 else fr))
def Zal (ts : List Wb) (q : List Int) : Nat -> Int
 | 0 => 0
 | k + 1 => ZhP (Ze ts (3 - k)) q (Zal ts q k)
def Zah (ts : List Wb) (q : List Int) (n : Nat) : Int := if Zal ts q (3 - n) = 0 then mid (Ze ts n).1 0 else Zal ts q (3 - n)
def Zbn (k : Int) : Int := if k < 4 then 4 else k
def Zcr (ts : List Wb) (q : List Int) (k : Int) : List Ht := (Zau (Ze ts 0).1 (Ze ts 0).2 (Zah ts q 0) q (Zbn k)).take k.toNat
def Zez (d : Int) (ts : List Wb) (q : List Int) (k : Int) : List Ht := if ZX d ts = true /\ ZJ (Ze ts 0).1 q = true /\ ZE k = true then Zcr ts q k else []
theorem Zcp {lo hi : List Mk} (h : Zar lo hi = true) {k : Nat} (hk : k < hi.length) : 0 <= Zk lo (mid hi k) /\ mat lo (Zn lo (mid hi k)) = mat hi k := by
 rw [Zar, List.all_eq_true] at h
 exact Zbx.1 (h _ (ZdJ hk))
theorem Zen {lo hi : List Mk} (h : Zar lo hi = true) {x : Int} (hx : 0 <= Zk hi x) : 0 <= Zk lo x := by
 obtain ⟨a, -, c⟩ := Zx hx
 have := (Zcp h a).1
 rw [c] at this
 exact this
theorem Zfy {lo hi : List Mk} (h : Zar lo hi = true) (h0 : lo.length = 0) : hi.length = 0 := by
 rcases Nat.eq_zero_or_pos hi.length with e | e
 · exact e
 · have := (Zx (Zcp h e).1).1
   omega
theorem ZfU {lo hi : List Mk} {q : List Int} (h : Zar lo hi = true) (hm : Zm hi = true) (ht : ZJ lo q = true) : ZJ hi q = true := by
 simp only [ZJ, Bool.and_eq_true, Bool.or_eq_true, decide_eq_true_eq] at ht ⊢
 refine ⟨⟨hm, ht.1.2⟩, ?_⟩
 rcases Nat.eq_zero_or_pos hi.length with e | e
 · exact Or.inl e
 · right
   obtain ⟨h1, h2⟩ := Zcp h e
   have h3 := (Zx h1).1
   rw [<- h2, ((ZZ _ _).1 (Zat ht.1.1 h3)).2.2.2.1]
   rcases ht.2 with h4 | h4
   · omega
   · exact h4
theorem Zl0 {ms : List Mk} (hm : Zm ms = true) {x : Int} (hx : 0 <= Zk ms x) : 1 <= x := by
 obtain ⟨a, -, c⟩ := Zx hx
 have := (ZZ _ _).1 (Zat hm a)
 rw [c] at this
 exact this.1
theorem Zfz {ms : List Mk} (hm : Zm ms = true) (h : 0 < ms.length) : 0 <= Zk ms (mid ms 0) := by
 have := (ZaO hm h).1
 omega
theorem Zdi {ms : List Mk} {ls : List (List Int)} {q : List Int} {fr : Int} (ht : ZaX ms ls fr q = true) : 0 < (Zac ms ls q fr).length /\ 0 <= Zk ms (Zex (Zac ms ls q fr)) := by
 obtain ⟨-, h1, h2⟩ := ZlH ht
 have e : ZaH ms ls fr q = Zac ms ls q fr := by unfold ZaH; rw [if_pos ht]
 rw [e] at h1 h2
 exact ⟨h1, (h2 _ (by omega)).1⟩
theorem ZhQ {d : Int} {ts : List Wb} {q : List Int} (h : ZX d ts = true) (ht : ZJ (Ze ts 0).1 q = true) : ∀ n, n < 4 -> ZJ (Ze ts n).1 q = true := by
 intro n
 induction n with
 | zero => intro _; exact ht
 | succ n ih => intro hn; exact ZfU (Zb5 h (by omega)) (Zz (Zaz h hn)) (ih (by omega))
theorem ZmR {d : Int} {ts : List Wb} {q : List Int} (h : ZX d ts = true) (ht : ZJ (Ze ts 0).1 q = true) : ∀ k, k <= 3 -> Zal ts q k = 0 \/ (1 <= k /\ 0 <= Zk (Ze ts (4 - k)).1 (Zal ts q k)) := by
 intro k
 induction k with
 | zero => intro _; exact Or.inl rfl
 | succ k ih =>
   intro hk
   have hw := Zaz h (n := 3 - k) (by omega)
   have hto := ZhQ h ht (3 - k) (by omega)
   have e4 : 4 - (k + 1) = 3 - k := by omega
   rw [e4]
   simp only [Zal, ZhP]
   by_cases h0 : (Ze ts (3 - k)).1.length = 0
   · rw [if_pos h0]
     rcases ih (by omega) with e | ⟨e1, e2⟩
     · exact Or.inl e
     · exfalso
       have hb := Zb5 h (n := 3 - k) (by omega)
       have := Zen hb (x := Zal ts q k) (by rw [show 3 - k + 1 = 4 - k by omega]; exact e2)
       have := (Zx this).1
       omega
   · rw [if_neg h0]
     right
     refine ⟨by omega, (Zdi ?_).2⟩
     rw [ZbZ]
     refine ⟨hw, hto, ?_⟩
     split
     · exact Zfz (Zz hw) (by omega)
     · rename_i hne
       rcases ih (by omega) with e | ⟨e1, e2⟩
       · exact absurd e hne
       · exact Zen (Zb5 h (n := 3 - k) (by omega)) (by rw [show 3 - k + 1 = 4 - k by omega]; exact e2)
theorem Zeo {d : Int} {ts : List Wb} {q : List Int} (h : ZX d ts = true) (ht : ZJ (Ze ts 0).1 q = true) {n : Nat} (hn : n <= 3) (h0 : 0 < (Ze ts n).1.length) : ZaX (Ze ts n).1 (Ze ts n).2 (Zah ts q n) q = true := by
 rw [ZbZ]
 refine ⟨Zaz h (by omega), ZhQ h ht n (by omega), ?_⟩
 unfold Zah
 split
 · exact Zfz (Zz (Zaz h (by omega))) h0
 · rename_i hne
   rcases ZmR h ht (3 - n) (by omega) with e | ⟨e1, e2⟩
   · exact absurd e hne
   · exact Zen (Zb5 h (n := n) (by omega)) (by rw [show n + 1 = 4 - (3 - n) by omega]; exact e2)
theorem ZhR {d : Int} {ts : List Wb} {q : List Int} (h : ZX d ts = true) (ht : ZJ (Ze ts 0).1 q = true) {n : Nat} (hn : n < 3) (h0 : 0 < (Ze ts (n + 1)).1.length) : Zah ts q n = Zex (Zac (Ze ts (n + 1)).1 (Ze ts (n + 1)).2 q (Zah ts q (n + 1))) /\ Zal ts q (3 - n) = Zex (Zac (Ze ts (n + 1)).1 (Ze ts (n + 1)).2 q (Zah ts q (n + 1))) := by
 have e : Zal ts q (3 - n) = Zex (Zac (Ze ts (n + 1)).1 (Ze ts (n + 1)).2 q (Zah ts q (n + 1))) := by
  rw [show 3 - n = (3 - (n + 1)) + 1 by omega]
  simp only [Zal, ZhP]
  rw [show 3 - (3 - (n + 1)) = n + 1 by omega, if_neg (by omega)]
  rfl
 refine ⟨?_, e⟩
 have hl := Zdi (Zeo h ht (n := n + 1) (by omega) h0)
 have hp := Zl0 (Zz (Zaz h (n := n + 1) (by omega))) hl.2
 unfold Zah at *
 rw [e, if_neg (by omega)]
theorem ZkB {ts : List Wb} {q : List Int} {n : Nat} (hn : n < 3) (h0 : (Ze ts (n + 1)).1.length = 0) : Zal ts q (3 - n) = Zal ts q (3 - (n + 1)) := by
 rw [show 3 - n = (3 - (n + 1)) + 1 by omega]
 simp only [Zal, ZhP]
 rw [show 3 - (3 - (n + 1)) = n + 1 by omega, if_pos h0]
theorem Zl1 {d : Int} {ts : List Wb} (h : ZX d ts = true) {n : Nat} (h0 : (Ze ts n).1.length = 0) : ∀ j, n + j < 4 -> (Ze ts (n + j)).1.length = 0 := by
 intro j
 induction j with
 | zero => intro _; exact h0
 | succ j ih => intro hj; exact Zfy (Zb5 h (n := n + j) (by omega)) (ih (by omega))
theorem Zl2 {d : Int} {ts : List Wb} {q : List Int} (h : ZX d ts = true) {p : Nat} (hp : p <= 3) (hup : p < 3 -> (Ze ts (p + 1)).1.length = 0) : Zah ts q p = mid (Ze ts p).1 0 := by
 have hz : ∀ k, k <= 3 - p -> Zal ts q k = 0 := by
  intro k
  induction k with
  | zero => intro _; rfl
  | succ k ih =>
    intro hk
    have he : (Ze ts (3 - k)).1.length = 0 := by
     have := Zl1 h (hup (by omega)) (3 - k - (p + 1)) (by omega)
     rw [show p + 1 + (3 - k - (p + 1)) = 3 - k by omega] at this
     exact this
    simp only [Zal, ZhP]
    rw [if_pos he]
    exact ih (by omega)
 unfold Zah
 rw [if_pos (hz _ (Nat.le_refl _))]
theorem ZgI {k : Int} (h : ZE k = true) : ZE (Zbn k) = true /\ 4 <= Zbn k /\ 1 <= k /\ k <= 60 := by
 simp only [ZE, Bool.and_eq_true, decide_eq_true_eq] at h ⊢
 unfold Zbn
 split <;> omega
theorem Zfw {d : Int} {ts : List Wb} {q : List Int} {k : Int} (h1 : ZX d ts = true) (h2 : ZJ (Ze ts 0).1 q = true) (h3 : ZE k = true) : Zez d ts q k = Zcr ts q k := by unfold Zez; rw [if_pos ⟨h1, h2, h3⟩]
theorem Zdh {d : Int} {ts : List Wb} {q : List Int} {k : Int} (h : ZX d ts = false \/ ZJ (Ze ts 0).1 q = false \/ ZE k = false) : Zez d ts q k = [] := by
 unfold Zez
 rw [if_neg]
 rintro ⟨h1, h2, h3⟩
 rcases h with h | h | h
 · rw [h1] at h; cases h
 · rw [h2] at h; cases h
 · rw [h3] at h; cases h
theorem Zej {ts : List Wb} {q : List Int} {k : Int} (h0 : (Ze ts 0).1.length = 0) : Zcr ts q k = [] := by
 have : Zau (Ze ts 0).1 (Ze ts 0).2 (Zah ts q 0) q (Zbn k) = [] := by
  unfold Zau
  rw [if_neg]
  rintro ⟨ht, -⟩
  have := (Zx ((ZbZ _ _ _ _).1 ht).2.2).1
  omega
 unfold Zcr
 rw [this]
 simp
theorem ZkC {d : Int} {ts : List Wb} {q : List Int} {k : Int} (h1 : ZX d ts = true) (h2 : ZJ (Ze ts 0).1 q = true) (h3 : ZE k = true) (h0 : 0 < (Ze ts 0).1.length) : Zcr ts q k = (ZaS (Ze ts 0).1 (Ze ts 0).2 q (Zbn k).toNat [Zl (Ze ts 0).1 q (Zah ts q 0)] [Zah ts q 0] []).take k.toNat := by
 unfold Zcr Zau
 rw [if_pos ⟨Zeo h1 h2 (Nat.zero_le _) h0, (ZgI h3).1⟩]
theorem Zl3 (k : Int) (w : World) :
 Calls Tryz.prog 126 #[.int .i64 k, .int .i64 4] w fun e w' => e = .returned (.int .i64 (Zbn k)) /\ w' = w := by
 by_cases h : k > 4
 · have HV : Hid (Zbn k = k) := by show _ = _; unfold Zbn; split <;> omega
   go_enter Tryz.func126, Tryz.ntmps126
   go_wp2
   go_ret
   exact ⟨ZV HV.out.symm, rfl⟩
 · have HV : Hid (Zbn k = 4) := by show _ = _; unfold Zbn; split <;> omega
   go_enter Tryz.func126, Tryz.ntmps126
   go_wp2
   go_ret
   exact ⟨ZV HV.out.symm, rfl⟩
theorem ZhS {base : Nat} {w : World} {g c : Nat} {xs : List Int} (h : Row base w g c xs) (h0 : 0 < xs.length) : w.cell? ⟨g, xs.length - 1, none⟩ = some (.int .i64 (Zex xs)) := by
 rcases h.view with e | ⟨b, off, e, hb, hs⟩
 · rw [e] at h0; simp at h0
 · injection e with e
   injection e with e1 e2
   subst e1 e2
   have := hs (xs.length - 1) (by omega)
   rw [Nat.zero_add] at this
   exact this
theorem ZmN (s : Bool) (aw aq : Option Addr) (cw cq : Nat) (d : Int) (ts : List Wb) (q : List Int) (k : Int) (w : World) (hv : ZC s w aw ts) (hq : Zp w aq q) (hsm : ZaY ts) (hql : q.length <= 1048576) (ht : ZX d ts = true) (hto : ZJ (Ze ts 0).1 q = true) (hk : ZE k = true) :
 Calls Tryz.prog 120 #[.agg #[.int .i64 d, .slice aw 4 cw], .slice aq q.length cq, .int .i64 k] w fun e w' => ∃ g c, e = .returned (.slice (some ⟨g, 0, none⟩) (Zcr ts q k).length c) /\ Zy w.heap.size w' g c (Zcr ts q k) /\ Below w.heap.size w w' := by
 have hlen := (ZaP ht).1
 obtain ⟨W, hW⟩ : ∃ W, w.alloc (.cells #[.int .i64 d, .slice aw 4 cw] 26) = W := ⟨_, rfl⟩
 have hB : Below w.heap.size w W := by rw [<- hW]; exact (Below.refl _ _).alloc (Nat.le_refl _) _
 have hI : ZcK s W w.heap.size d aw cw ts := by rw [<- hW, <- hlen]; exact ZcK.box hv
 have HB := Za hB
 have HI := Za hI
 have HQ := Za (hq.next hB)
 have HSM := Za hsm.2
 have HLEN := Za hlen
 have HT := Za ht
 have HTO := Za hto
 have HKK := Za hk
 have hkm := ZgI hk
 have HWW := Za hW
 clear hv hq hsm hB hI hlen ht hto hk hW
 go_enter Tryz.func120, Tryz.ntmps120
 go_wp2_with fail
 rw [HWW.out]
 clear HWW
 go_loopg [7, 8] 3 (fun gk fv nv wr => ∃ n : Nat, n <= 3 /\ n <= gk /\ fv = .int .i64 (Zal ts q (3 - n)) /\ nv = .int .i64 n /\ Below W.heap.size W wr)
 case atStart => exact ⟨3, by omega, by omega, rfl, rfl, Below.refl _ _⟩
 case round =>
  obtain ⟨n, hn, hgk, rfl, rfl, L⟩ := hrel
  have HL := Za L
  have hIr := HI.out.below L
  have HQR := Za (HQ.out.next L)
  clear L
  by_cases hn0 : 0 < n
  · have hngt : (n : Int) > 0 := by omega
    have hni : (0 : Int) <= (n : Int) := Int.natCast_nonneg _
    have hn4 : (n : Int) < 4 := by omega
    obtain ⟨p, hp⟩ : ∃ p, n - 1 = p := ⟨_, rfl⟩
    have hnp : n = p + 1 := by omega
    have hwp : IntKind.i64.wrap ((n : Int) - 1) = (p : Int) := by rw [IntWalk.i64_in _ ⟨by omega, by omega⟩]; omega
    have HNP := Za hnp
    clear hp hnp
    obtain ⟨b, off, am, cm, al, cl, rfl, hb, c0, c1, hm, hc, -⟩ := hIr.web (n := n) (by rw [HLEN.out]; omega)
    have k1 := hIr.c1
    rw [HLEN.out] at k1
    obtain ⟨V, hV⟩ : ∃ V, wr.alloc (.cells #[.slice am (Ze ts n).1.length cm, .slice al (Ze ts n).2.length cl] 47) = V := ⟨_, rfl⟩
    have LV : Below wr.heap.size wr V := by rw [<- hV]; exact (Below.refl _ _).alloc (Nat.le_refl _) _
    have y0 : V.cell? ⟨wr.heap.size, 0, none⟩ = some (.slice am (Ze ts n).1.length cm) := by rw [<- hV]; simp
    have y1 : V.cell? ⟨wr.heap.size, 1, none⟩ = some (.slice al (Ze ts n).2.length cl) := by rw [<- hV]; simp
    have HLV := Za (Zd HL.out LV)
    have HMV := Za (hm.next LV)
    have HCV := Za (hc.next LV)
    have HQV := Za (HQR.out.next LV)
    clear hm hc LV hIr
    by_cases hl0 : (Ze ts n).1.length = 0
    · have HSK : Hid (Zal ts q (3 - p) = Zal ts q (3 - n)) := by
       show _ = _
       rw [HNP.out]
       exact ZkB (by have := HNP.out; omega) (by rw [<- HNP.out]; exact hl0)
      rw [hl0] at c0 y0 hV
      generalize (Ze ts n).2.length = l2 at *
      clear hl0
      go_wp2_with fail
      go_roundg p
      case rel => exact ⟨p, by have := HNP.out; omega, Nat.le_refl _, by rw [HSK.out], by go_num, HLV.out⟩
      case measure => have := HNP.out; omega
    · have hlne : (((Ze ts n).1.length : Int) == 0) = false := by rw [beq_eq_false_iff_ne]; omega
      obtain ⟨mb, mo, rfl, hmb, hms⟩ := ZaW.seg HMV.out (by omega)
      have cid : V.cell? ⟨mb, mo, none⟩ = some (.int .i64 (mid (Ze ts n).1 0)) := by have := (hms.at (i := 0) (by omega)).1; simpa using this
      have hpos : (0 : Int) < ((Ze ts n).1.length : Int) := by omega
      have HIN := Za (Zeo HT.out HTO.out hn (by omega))
      have HWK := Za (Znn (some ⟨mb, mo, none⟩) al aq cm cl cq (Ze ts n).1 (Ze ts n).2 q (Zah ts q n) V HMV.out HCV.out HQV.out (HSM.out n).1 (HSM.out n).2 hql (Zaz HT.out (by omega)) ((ZbZ _ _ _ _).1 HIN.out).2.2)
      have HLA := Za (Zdi HIN.out).1
      have HST : Hid (Zal ts q (3 - p) = Zex (Zac (Ze ts n).1 (Ze ts n).2 q (Zah ts q n))) := by
       show _ = _
       have hh := (ZhR HT.out HTO.out (n := p) (by have := HNP.out; omega) (by rw [<- HNP.out]; omega)).2
       rw [<- HNP.out] at hh
       exact hh
      have HSH : Hid ((Zac (Ze ts n).1 (Ze ts n).2 q (Zah ts q n)).length <= 61) := by
       show _ <= _
       have h1 := ZcT (ms := (Ze ts n).1) (ls := (Ze ts n).2) (q := q) (Zah ts q n)
       have h2 := ZT (Zz (Zaz HT.out (n := n) (by omega)))
       omega
      have HCU : Hid (Zah ts q n = if Zal ts q (3 - n) = 0 then mid (Ze ts n).1 0 else Zal ts q (3 - n)) := rfl
      generalize hwk : Zac (Ze ts n).1 (Ze ts n).2 q (Zah ts q n) = wl at *
      clear hwk hms
      by_cases hf0 : Zal ts q (3 - n) = 0
      · have hfb : (Zal ts q (3 - n) == 0) = true := by simp [hf0]
        rw [HCU.out, if_pos hf0] at HWK
        clear hf0 HCU
        generalize Zal ts q (3 - n) = fr at *
        generalize (Ze ts n).1.length = l1 at *
        generalize (Ze ts n).2.length = l2 at *
        generalize mid (Ze ts n).1 0 = x0 at *
        go_wp2_with fail
        refine HWK.out.mono ?_
        rintro e w3 ⟨g, c, rfl, hrow, L3⟩
        have hpl := HLA.out
        have hp61 := HSH.out
        have cl3 := ZhS hrow hpl
        have hgl := hrow.lt g rfl
        have HL3 := Za (Zd HLV.out L3)
        have hwl : IntKind.i64.wrap ((wl.length : Int) - 1) = ((wl.length - 1 : Nat) : Int) := by rw [IntWalk.i64_in _ ⟨by omega, by omega⟩]; omega
        have hj0 : (0 : Int) <= ((wl.length - 1 : Nat) : Int) := Int.natCast_nonneg _
        have hj1 : ((wl.length - 1 : Nat) : Int) < (wl.length : Int) := by omega
        clear hrow L3 y0 y1
        generalize wl.length - 1 = j at *
        go_wp2_with fail
        go_roundg p
        case rel => exact ⟨p, by have := HNP.out; omega, Nat.le_refl _, by rw [HST.out], by go_num, HL3.out⟩
        case measure => have := HNP.out; omega
      · have hfb : (Zal ts q (3 - n) == 0) = false := by simp [hf0]
        rw [HCU.out, if_neg hf0] at HWK
        clear hf0 HCU
        generalize Zal ts q (3 - n) = fr at *
        generalize (Ze ts n).1.length = l1 at *
        generalize (Ze ts n).2.length = l2 at *
        generalize mid (Ze ts n).1 0 = x0 at *
        go_wp2_with fail
        refine HWK.out.mono ?_
        rintro e w3 ⟨g, c, rfl, hrow, L3⟩
        have hpl := HLA.out
        have hp61 := HSH.out
        have cl3 := ZhS hrow hpl
        have hgl := hrow.lt g rfl
        have HL3 := Za (Zd HLV.out L3)
        have hwl : IntKind.i64.wrap ((wl.length : Int) - 1) = ((wl.length - 1 : Nat) : Int) := by rw [IntWalk.i64_in _ ⟨by omega, by omega⟩]; omega
        have hj0 : (0 : Int) <= ((wl.length - 1 : Nat) : Int) := Int.natCast_nonneg _
        have hj1 : ((wl.length - 1 : Nat) : Int) < (wl.length : Int) := by omega
        clear hrow L3 y0 y1
        generalize wl.length - 1 = j at *
        go_wp2_with fail
        go_roundg p
        case rel => exact ⟨p, by have := HNP.out; omega, Nat.le_refl _, by rw [HST.out], by go_num, HL3.out⟩
        case measure => have := HNP.out; omega
  · have hngt : ¬ ((n : Int) > 0) := by omega
    have HN0 : Hid (n = 0) := by show n = 0; omega
    obtain ⟨b, off, am, cm, al, cl, rfl, hb, c0, c1, hm, hc, -⟩ := hIr.web (n := 0) (by rw [HLEN.out]; omega)
    have k1 := hIr.c1
    rw [HLEN.out] at k1
    rw [Nat.zero_mul, Nat.add_zero] at c0 c1
    have HMR := Za hm
    have HCR := Za hc
    have hXl := hIr.lt
    clear hm hc hIr
    by_cases hl0 : (Ze ts 0).1.length = 0
    · have HV := Za (Zej (q := q) (k := k) hl0)
      rw [hl0] at c0
      have R1 := Za (Zy.start wr w.heap.size (by have := HB.out.size; have := HL.out.size; omega))
      have HL1 := Za ((Zd HB.out HL.out).alloc (by have := HB.out.size; have := HL.out.size; omega) (.cells #[] 66))
      clear hl0
      generalize Zal ts q (3 - n) = fr at *
      generalize (Ze ts 0).2.length = l2 at *
      go_wp2_with fail
      go_ret
      rw [HV.out]
      exact ⟨_, 0, rfl, R1.out, HL1.out⟩
    · have hlne : (((Ze ts 0).1.length : Int) == 0) = false := by rw [beq_eq_false_iff_ne]; omega
      obtain ⟨mb, mo, rfl, hmb, hms⟩ := ZaW.seg HMR.out (by omega)
      have cid : wr.cell? ⟨mb, mo, none⟩ = some (.int .i64 (mid (Ze ts 0).1 0)) := by have := (hms.at (i := 0) (by omega)).1; simpa using this
      have hpos : (0 : Int) < ((Ze ts 0).1.length : Int) := by omega
      have HIN := Za (Zeo HT.out HTO.out (n := 0) (by omega) (by omega))
      have HASK := Za (ZkC HT.out HTO.out HKK.out (by omega))
      have HBM : Hid (∀ W', Below wr.heap.size wr W' -> Calls Tryz.prog 206 #[.agg #[.slice (some ⟨mb, mo, none⟩) (Ze ts 0).1.length cm, .slice al (Ze ts 0).2.length cl], .int .i64 (Zah ts q 0), .slice aq q.length cq, .int .i64 (Zbn k)] W' fun e w' => ∃ g c, e = .returned (.slice (some ⟨g, 0, none⟩) (ZaS (Ze ts 0).1 (Ze ts 0).2 q (Zbn k).toNat [Zl (Ze ts 0).1 q (Zah ts q 0)] [Zah ts q 0] []).length c) /\ Zy W'.heap.size w' g c (ZaS (Ze ts 0).1 (Ze ts 0).2 q (Zbn k).toNat [Zl (Ze ts 0).1 q (Zah ts q 0)] [Zah ts q 0] []) /\ Below W'.heap.size W' w') := fun W' L' =>
       Zni (some ⟨mb, mo, none⟩) al aq cm cl cq (Ze ts 0).1 (Ze ts 0).2 q (Zah ts q 0) (Zbn k) W' (HMR.out.next L') (HCR.out.next L') (HQR.out.next L') (HSM.out 0).1 (HSM.out 0).2 hql (Zaz HT.out (by omega)) ((ZbZ _ _ _ _).1 HIN.out).2.2 hkm.1
      have HBL : Hid ((ZaS (Ze ts 0).1 (Ze ts 0).2 q (Zbn k).toNat [Zl (Ze ts 0).1 q (Zah ts q 0)] [Zah ts q 0] []).length <= 4194304) := by
       show _ <= _
       have h1 := (ZeE (Ze ts 0).1 (Ze ts 0).2 (Zah ts q 0) q (Zbn k)).2.2.2
       have h2 : Zau (Ze ts 0).1 (Ze ts 0).2 (Zah ts q 0) q (Zbn k) = ZaS (Ze ts 0).1 (Ze ts 0).2 q (Zbn k).toNat [Zl (Ze ts 0).1 q (Zah ts q 0)] [Zah ts q 0] [] := by
        unfold Zau; rw [if_pos ⟨HIN.out, hkm.1⟩]
       rw [h2] at h1
       omega
      have HCU : Hid (Zah ts q 0 = if Zal ts q (3 - n) = 0 then mid (Ze ts 0).1 0 else Zal ts q (3 - n)) := by show _ = _; rw [HN0.out]; rfl
      generalize hbg : ZaS (Ze ts 0).1 (Ze ts 0).2 q (Zbn k).toNat [Zl (Ze ts 0).1 q (Zah ts q 0)] [Zah ts q 0] [] = bs at *
      obtain ⟨fr0, hfr0⟩ : ∃ fr0, Zah ts q 0 = fr0 := ⟨_, rfl⟩
      rw [hfr0] at HBM HCU
      have HK : Hid (∀ W', Below wr.heap.size wr W' -> W'.cell? ⟨w.heap.size, 1, none⟩ = some (.slice (some ⟨b, off, none⟩) 4 cw) /\ W'.cell? ⟨b, off, none⟩ = some (.slice (some ⟨mb, mo, none⟩) (Ze ts 0).1.length cm) /\ W'.cell? ⟨b, off + 1, none⟩ = some (.slice al (Ze ts 0).2.length cl)) := fun W' L' => ⟨(L'.cell (p := ⟨w.heap.size, 1, none⟩) hXl).trans k1, (L'.cell (p := ⟨b, off, none⟩) hb).trans c0, (L'.cell (p := ⟨b, off + 1, none⟩) hb).trans c1⟩
      clear hbg hms hfr0
      by_cases hf0 : Zal ts q (3 - n) = 0
      · have hfb : (Zal ts q (3 - n) == 0) = true := by simp [hf0]
        have HFR : Hid (fr0 = mid (Ze ts 0).1 0) := by show _ = _; rw [HCU.out, if_pos hf0]
        rw [HFR.out] at HBM
        clear hf0 HCU HFR
        go_wp2_with fail
        refine Zr (S := fun w' => w'.cell? ⟨w.heap.size, 1, none⟩ = some (.slice (some ⟨b, off, none⟩) 4 cw) /\ w'.cell? ⟨b, off, none⟩ = some (.slice (some ⟨mb, mo, none⟩) (Ze ts 0).1.length cm) /\ w'.cell? ⟨b, off + 1, none⟩ = some (.slice al (Ze ts 0).2.length cl)) (fuel := 4) [0, 1, 2, 3, 4, 5, 6, 9] (by kernel_rfl) (by kernel_rfl) (by kernel_rfl) (by kernel_rfl) (HK.out _ ((Below.refl wr.heap.size wr).drew)) (fun _ => ?_)
        iterate 8
         refine ⟨_, rfl, ?_⟩
         apply Exists.intro
         refine ⟨Or.inl ⟨by rfl, fun w' hw' => ?_⟩, ?_⟩
         · first
           | (go_simp; done)
           | (go_simp; with_reducible rfl)
         simp only [Act.put, List.getElem_toArray, List.getElem_cons_succ, List.getElem_cons_zero, List.setIfInBounds_toArray, List.set_cons_zero, List.set_cons_succ]
        refine Zg 7 (by kernel_rfl) rfl (fun K hK => ?_)
        go_simp
        refine (Zl3 k _).mono ?_
        rintro e w2 ⟨rfl, hw2⟩
        subst hw2
        refine hK.out _ _ (HK.out _ ((Below.refl wr.heap.size wr).drew)) (fun _ => ?_)
        clear hK K
        refine Zg 8 (by kernel_rfl) rfl (fun K hK => ?_)
        go_simp
        refine (HBM.out _ ((Below.refl wr.heap.size wr).drew)).mono ?_
        rintro e w3 ⟨g, c, rfl, hrow, L3'⟩
        have L3 : Below wr.heap.size wr w3 := Below.trans ((Below.refl wr.heap.size wr).drew) L3'
        refine hK.out _ _ (HK.out _ L3) (fun _ => ?_)
        clear hK K L3'
        refine Zg 10 (by kernel_rfl) rfl (fun K hK => ?_)
        go_simp
        refine (Zgh _ g c bs k w3 hrow HBL.out (by omega)).mono ?_
        rintro e w4 ⟨g4, c4, rfl, hrow4, L4⟩
        have HL4 := Za (Zd L3 L4)
        refine hK.out _ _ (HK.out _ HL4.out) (fun _ => ?_)
        clear hK K
        have HR4 := Za (hrow4.mono (base' := w.heap.size) (by have := L3.size; have := HL.out.size; have := HB.out.size; omega))
        clear hrow hrow4 L3 L4
        refine ZH [11] rfl (by kernel_rfl) (by kernel_rfl) (by kernel_rfl) (HK.out _ HL4.out) ?_
        iterate 1
         refine ⟨_, rfl, ?_⟩
         apply Exists.intro
         refine ⟨Or.inl ⟨by rfl, fun w' hw' => ?_⟩, ?_⟩
         · first
           | (go_simp; done)
           | (go_simp; with_reducible rfl)
         simp only [Act.put, List.getElem_toArray, List.getElem_cons_succ, List.getElem_cons_zero, List.setIfInBounds_toArray, List.set_cons_zero, List.set_cons_succ]
        refine NoPanic.normal (NoPanic.normal ?_)
        have HF := Za (Zd HB.out (Zd HL.out HL4.out))
        clear HL4 HK HBM
        try simp only [Exit.then]
        go_wp2_with fail
        go_ret
        rw [HASK.out]
        exact ⟨g4, c4, by rw [List.length_take]; rfl, HR4.out, HF.out⟩
      · have hfb : (Zal ts q (3 - n) == 0) = false := by simp [hf0]
        have HFR : Hid (fr0 = Zal ts q (3 - n)) := by show _ = _; rw [HCU.out, if_neg hf0]
        rw [HFR.out] at HBM
        clear hf0 HCU HFR
        go_wp2_with fail
        refine Zr (S := fun w' => w'.cell? ⟨w.heap.size, 1, none⟩ = some (.slice (some ⟨b, off, none⟩) 4 cw) /\ w'.cell? ⟨b, off, none⟩ = some (.slice (some ⟨mb, mo, none⟩) (Ze ts 0).1.length cm) /\ w'.cell? ⟨b, off + 1, none⟩ = some (.slice al (Ze ts 0).2.length cl)) (fuel := 4) [0, 1, 2, 3, 4, 5, 6, 9] (by kernel_rfl) (by kernel_rfl) (by kernel_rfl) (by kernel_rfl) (HK.out _ ((Below.refl wr.heap.size wr).drew)) (fun _ => ?_)
        iterate 8
         refine ⟨_, rfl, ?_⟩
         apply Exists.intro
         refine ⟨Or.inl ⟨by rfl, fun w' hw' => ?_⟩, ?_⟩
         · first
           | (go_simp; done)
           | (go_simp; with_reducible rfl)
         simp only [Act.put, List.getElem_toArray, List.getElem_cons_succ, List.getElem_cons_zero, List.setIfInBounds_toArray, List.set_cons_zero, List.set_cons_succ]
        refine Zg 7 (by kernel_rfl) rfl (fun K hK => ?_)
        go_simp
        refine (Zl3 k _).mono ?_
        rintro e w2 ⟨rfl, hw2⟩
        subst hw2
        refine hK.out _ _ (HK.out _ ((Below.refl wr.heap.size wr).drew)) (fun _ => ?_)
        clear hK K
        refine Zg 8 (by kernel_rfl) rfl (fun K hK => ?_)
        go_simp
        refine (HBM.out _ ((Below.refl wr.heap.size wr).drew)).mono ?_
        rintro e w3 ⟨g, c, rfl, hrow, L3'⟩
        have L3 : Below wr.heap.size wr w3 := Below.trans ((Below.refl wr.heap.size wr).drew) L3'
        refine hK.out _ _ (HK.out _ L3) (fun _ => ?_)
        clear hK K L3'
        refine Zg 10 (by kernel_rfl) rfl (fun K hK => ?_)
        go_simp
        refine (Zgh _ g c bs k w3 hrow HBL.out (by omega)).mono ?_
        rintro e w4 ⟨g4, c4, rfl, hrow4, L4⟩
        have HL4 := Za (Zd L3 L4)
        refine hK.out _ _ (HK.out _ HL4.out) (fun _ => ?_)
        clear hK K
        have HR4 := Za (hrow4.mono (base' := w.heap.size) (by have := L3.size; have := HL.out.size; have := HB.out.size; omega))
        clear hrow hrow4 L3 L4
        refine ZH [11] rfl (by kernel_rfl) (by kernel_rfl) (by kernel_rfl) (HK.out _ HL4.out) ?_
        iterate 1
         refine ⟨_, rfl, ?_⟩
         apply Exists.intro
         refine ⟨Or.inl ⟨by rfl, fun w' hw' => ?_⟩, ?_⟩
         · first
           | (go_simp; done)
           | (go_simp; with_reducible rfl)
         simp only [Act.put, List.getElem_toArray, List.getElem_cons_succ, List.getElem_cons_zero, List.setIfInBounds_toArray, List.set_cons_zero, List.set_cons_succ]
        refine NoPanic.normal (NoPanic.normal ?_)
        have HF := Za (Zd HB.out (Zd HL.out HL4.out))
        clear HL4 HK HBM
        try simp only [Exit.then]
        go_wp2_with fail
        go_ret
        rw [HASK.out]
        exact ⟨g4, c4, by rw [List.length_take]; rfl, HR4.out, HF.out⟩
theorem Zy.take15 {base : Nat} {w : World} {g c : Nat} {hs : List Ht} (h : Zy base w g c hs) (m : Nat) (hm : m <= hs.length) : Zy base w g c (hs.take m) := by
 obtain ⟨h1, h2⟩ := h
 rcases h2 with ⟨e, _⟩ | ⟨g', cp, cur, e, hb, hg, hnc, hcm, hsz, htk⟩
 · cases e
 · injection e with e1 e2 e3
   injection e1 with e1
   injection e1 with e1
   subst e1 e3
   refine ⟨Zay _, Or.inr ⟨g, c, cur, rfl, hb, hg, by simp; omega, hcm, hsz, ?_⟩⟩
   have e1 : (hs.take m).length = m := by simp; omega
   have e2 : Zi hs = Zi (hs.take m) ++ Zi (hs.drop m) := by rw [<- Z7, List.take_append_drop]
   have e3 : cur.toList.take (m * 2) = (cur.toList.take (hs.length * 2)).take (m * 2) := by rw [List.take_take]; congr 1; omega
   rw [e1, e3, htk, e2, List.take_left' (by rw [Zay, e1])]
theorem Zb8.take15 {base : Nat} {w : World} {a : Option Addr} {n c : Nat} {hs : List Ht} (h : Zb8 base w (.slice a n c) hs) (m : Nat) (hm : m <= hs.length) : Zb8 base w (.slice a m c) (hs.take m) := by
 rcases h with ⟨e, rfl⟩ | ⟨g, c', e, hr⟩
 · injection e with e1 e2 e3
   subst e1 e3
   have : m = 0 := by simpa using hm
   subst this
   exact Or.inl ⟨rfl, rfl⟩
 · injection e with e1 e2 e3
   subst e1 e3
   exact Or.inr ⟨g, c, by congr 1; simp; omega, hr.take15 m hm⟩
theorem Zb8.cap15 {base : Nat} {w : World} {a : Option Addr} {n c : Nat} {hs : List Ht} (h : Zb8 base w (.slice a n c) hs) : hs.length <= c /\ (hs ≠ [] -> a ≠ none) := by
 rcases h with ⟨e, rfl⟩ | ⟨g, c', e, hr⟩
 · exact ⟨by simp, fun h => absurd rfl h⟩
 · injection e with e1 e2 e3
   subst e1 e3
   exact ⟨hr.cap, fun _ => by simp⟩
theorem iPeak (s : Bool) (aw : Option Addr) (cw : Nat) (d : Int) (ts : List Wb) (w : World) (hv : ZC s w aw ts) (hlen : ts.length = 4) (hsm : ZaY ts) :
 Calls Tryz.prog 194 #[.agg #[.int .i64 d, .slice aw 4 cw]] w fun e w' => (∃ p : Nat, e = .returned (.int .i64 p) /\ p <= 3 /\ (p < 3 -> (Ze ts (p + 1)).1.length = 0) /\ (0 < p -> 0 < (Ze ts p).1.length)) /\ Below w.heap.size w w' := by
 obtain ⟨W, hW⟩ : ∃ W, w.alloc (.cells #[.int .i64 d, .slice aw 4 cw] 26) = W := ⟨_, rfl⟩
 have hB : Below w.heap.size w W := by rw [<- hW]; exact (Below.refl _ _).alloc (Nat.le_refl _) _
 have hI : ZcK s W w.heap.size d aw cw ts := by rw [<- hW, <- hlen]; exact ZcK.box hv
 have k1 := hI.c1
 rw [hlen] at k1
 have HB := Za hB
 have HI := Za hI
 have HLEN := Za hlen
 have HSM := Za hsm.2
 clear hv hB hI hlen hsm
 go_enter Tryz.func194, Tryz.ntmps194
 go_wp2_with fail
 go_loopw [3] (fun nv wr => ∃ n : Nat, n <= 3 /\ nv = .int .i64 n /\ (0 < n -> 0 < (Ze ts n).1.length) /\ wr = W) (fun nv _ => 3 - (intOf nv).toNat)
 case atStart => exact ⟨0, by omega, rfl, fun h => by omega, rfl⟩
 case round =>
  obtain ⟨n, hn, rfl, hpos, hwr⟩ := hrel
  subst hwr
  have HP := Za hpos
  clear hpos
  by_cases hlt : n < 3
  · have hlti : (n : Int) < 3 := by omega
    obtain ⟨b, off, am, cm, al, cl, rfl, hb, c0, c1, -, -, -⟩ := HI.out.web (n := n + 1) (by rw [HLEN.out]; omega)
    have hi0 : (0 : Int) <= (n : Int) + 1 := by omega
    have hi1 : (n : Int) + 1 < 4 := by omega
    have hl := ((HSM.out (n + 1)).1).1
    by_cases hl0 : (Ze ts (n + 1)).1.length = 0
    · have hgt : ¬ (((Ze ts (n + 1)).1.length : Int) > 0) := by omega
      have HZ := Za hl0
      clear hl0
      obtain ⟨l1, hl1⟩ : ∃ l1, (Ze ts (n + 1)).1.length = l1 := ⟨_, rfl⟩
      rw [hl1] at c0 hgt hl
      clear hl1
      go_wp2_with fail
      go_ret
      exact ⟨⟨n, rfl, hn, fun _ => by first | exact HZ.out | exact List.length_eq_zero_iff.1 HZ.out, HP.out⟩, HB.out⟩
    · have hgt : ((Ze ts (n + 1)).1.length : Int) > 0 := by omega
      have HZ : Hid (0 < (Ze ts (n + 1)).1.length) := by show 0 < _; omega
      have hw1 : IntKind.i64.wrap ((n : Int) + 1) = (n : Int) + 1 := IntWalk.i64_in _ ⟨by omega, by omega⟩
      clear hl0
      obtain ⟨l1, hl1⟩ : ∃ l1, (Ze ts (n + 1)).1.length = l1 := ⟨_, rfl⟩
      rw [hl1] at c0 hgt hl
      clear hl1
      go_wp2_with fail
      go_roundw
      case rel => exact ⟨n + 1, by omega, by go_num, fun _ => HZ.out, by first | trivial | rfl⟩
      case measure => simp [intOf]; omega
  · have hlti : ¬ (n : Int) < 3 := by omega
    obtain rfl : n = 3 := by omega
    go_wp2_with fail
    go_ret
    exact ⟨⟨3, rfl, by omega, fun h => by omega, HP.out⟩, HB.out⟩
theorem iDesc (aw aq : Option Addr) (cw cq : Nat) (d : Int) (ts : List Wb) (q : List Int) (w : World) (hv : ZC true w aw ts) (hq : Zp w aq q) (hsm : ZaY ts) (hql : q.length <= 1048576) (hqc : q.length <= cq) (ht : ZX d ts = true) (hto : ZJ (Ze ts 0).1 q = true) (h0 : 0 < (Ze ts 0).1.length) :
 Calls Tryz.prog 109 #[.agg #[.int .i64 d, .slice aw 4 cw], .slice aq q.length cq] w fun e w' => e = .returned (.int .i64 (Zah ts q 0)) /\ Below w.heap.size w w' := by
 have hlen := (ZaP ht).1
 obtain ⟨W, hW⟩ : ∃ W, w.alloc (.cells #[.int .i64 d, .slice aw 4 cw] 26) = W := ⟨_, rfl⟩
 have hB : Below w.heap.size w W := by rw [<- hW]; exact (Below.refl _ _).alloc (Nat.le_refl _) _
 have hI : ZcK true W w.heap.size d aw cw ts := by rw [<- hW, <- hlen]; exact ZcK.box hv
 have k0 := hI.c0
 have k1 := hI.c1
 rw [hlen] at k1
 have HPK := Za (iPeak true aw cw d ts W hI.wv hlen hsm)
 have HB := Za hB
 have HI := Za hI
 have HQ := Za (hq.next hB)
 have HLEN := Za hlen
 have HSM := Za hsm.2
 have HT := Za ht
 have HTO := Za hto
 have H0 := Za h0
 clear hv hq hB hI hlen hsm ht hto h0
 go_enter Tryz.func109, Tryz.ntmps109
 go_wp2_with fail
 refine HPK.out.mono ?_
 rintro e w1 ⟨⟨p, rfl, hp3, hpu, hpn⟩, L1⟩
 have HCP := Za (Zl2 (q := q) HT.out hp3 hpu)
 have HNE : Hid (0 < (Ze ts p).1.length) := by
  show 0 < _
  rcases Nat.eq_zero_or_pos p with e | e
  · rw [e]; exact H0.out
  · exact hpn e
 have hI1 := HI.out.below L1
 replace k1 := hI1.c1
 rw [HLEN.out] at k1
 obtain ⟨b, off, am, cm, al, cl, rfl, hb, c0, c1, hm, hc, -⟩ := hI1.web (n := p) (by rw [HLEN.out]; omega)
 have hne := HNE.out
 obtain ⟨mb, mo, rfl, hmb, hms⟩ := ZaW.seg hm hne
 have cid : w1.cell? ⟨mb, mo, none⟩ = some (.int .i64 (mid (Ze ts p).1 0)) := by have := (hms.at (i := 0) hne).1; simpa using this
 have hpos : (0 : Int) < ((Ze ts p).1.length : Int) := by omega
 have hp0 : (0 : Int) <= (p : Int) := Int.natCast_nonneg _
 have hp4 : (p : Int) < 4 := by omega
 have HL1 := Za L1
 clear hpu hpn L1 hI1 hm hc hms k0 hW HPK
 rw [<- HCP.out] at cid
 obtain ⟨l1, hl1⟩ : ∃ l1, (Ze ts p).1.length = l1 := ⟨_, rfl⟩
 rw [hl1] at c0 hpos hne
 clear hl1
 go_wp2_with fail
 clear cid c0 c1 k1 HCP hpos hne
 go_loopw [5, 6] (fun nv fv wr => ∃ n : Nat, n <= 3 /\ nv = .int .i64 n /\ fv = .int .i64 (Zah ts q n) /\ 0 < (Ze ts n).1.length /\ Below W.heap.size W wr) (fun nv _ _ => (intOf nv).toNat)
 case atStart => exact ⟨p, hp3, rfl, rfl, HNE.out, HL1.out⟩
 case round =>
  obtain ⟨n, hn, rfl, rfl, hnl, L⟩ := hrel
  have HL := Za L
  have hIr := HI.out.below L
  clear L
  by_cases hn0 : 0 < n
  · have hngt : (n : Int) > 0 := by omega
    have hni : (0 : Int) <= (n : Int) := Int.natCast_nonneg _
    have hn4 : (n : Int) < 4 := by omega
    obtain ⟨j, hj⟩ : ∃ j, n - 1 = j := ⟨_, rfl⟩
    have hwj : IntKind.i64.wrap ((n : Int) - 1) = (j : Int) := by rw [IntWalk.i64_in _ ⟨by omega, by omega⟩]; omega
    have HNJ : Hid (n = j + 1) := by show n = _; omega
    clear hj
    obtain ⟨b2, off2, am2, cm2, al2, cl2, eb, hb2, d0, d1, hm2, hc2, hcap⟩ := hIr.web (n := n) (by rw [HLEN.out]; omega)
    injection eb with eb
    injection eb with eb1 eb2
    subst eb1 eb2
    have k1 := hIr.c1
    rw [HLEN.out] at k1
    have HIN := Za (Zeo HT.out HTO.out hn hnl)
    have HWL : Hid (ZaH (Ze ts n).1 (Ze ts n).2 (Zah ts q n) q = Zac (Ze ts n).1 (Ze ts n).2 q (Zah ts q n)) := by show _ = _; unfold ZaH; rw [if_pos HIN.out]
    have HWK := Za (Zmj am2 cm2 (Ze ts n).1 al2 cl2 (Ze ts n).2 (Zah ts q n) aq cq q wr hm2 hc2 (HQ.out.next HL.out) (HSM.out n).1 (HSM.out n).2 hql (hcap rfl).1 (hcap rfl).2 hqc)
    rw [HWL.out] at HWK
    have HLA := Za (Zdi HIN.out).1
    have HST := Za ((ZhR HT.out HTO.out (n := j) (by have := HNJ.out; omega) (by rw [<- HNJ.out]; exact hnl)).1)
    rw [<- HNJ.out] at HST
    have HSH : Hid ((Zac (Ze ts n).1 (Ze ts n).2 q (Zah ts q n)).length <= 61) := by
     show _ <= _
     have h1 := ZcT (ms := (Ze ts n).1) (ls := (Ze ts n).2) (q := q) (Zah ts q n)
     have h2 := ZT (Zz (Zaz HT.out (n := n) (by omega)))
     omega
    have HJN : Hid (0 < (Ze ts j).1.length) := by
     show 0 < _
     rcases Nat.eq_zero_or_pos (Ze ts j).1.length with e | e
     · have := Zfy (Zb5 HT.out (n := j) (by have := HNJ.out; omega)) e
       rw [<- HNJ.out] at this
       omega
     · exact e
    generalize hwk : Zac (Ze ts n).1 (Ze ts n).2 q (Zah ts q n) = wl at *
    clear hwk hm2 hc2 hIr hcap HIN HWL
    generalize Zah ts q n = fr at *
    generalize (Ze ts n).1.length = l3 at *
    generalize (Ze ts n).2.length = l4 at *
    go_wp2_with fail
    refine HWK.out.mono ?_
    rintro e w3 ⟨a3, c3, rfl, hout, L3⟩
    have hpl := HLA.out
    have hp61 := HSH.out
    obtain ⟨b3, off3, rfl, hb3, hs3⟩ : ∃ b off, a3 = some ⟨b, off, none⟩ /\ b < w3.heap.size /\ Seg w3 b off wl := by
     rcases hout.slice with h | h
     · rw [h] at hpl; simp at hpl
     · exact h
    have cl3 := hs3 (wl.length - 1) (by omega)
    have HLI : Hid (nth wl (wl.length - 1) = Zex wl) := rfl
    rw [HLI.out] at cl3
    have HL3 := Za (Zd HL.out L3)
    have hwl : IntKind.i64.wrap ((wl.length : Int) - 1) = ((wl.length - 1 : Nat) : Int) := by rw [IntWalk.i64_in _ ⟨by omega, by omega⟩]; omega
    have hj0 : (0 : Int) <= ((wl.length - 1 : Nat) : Int) := Int.natCast_nonneg _
    have hj1 : ((wl.length - 1 : Nat) : Int) < (wl.length : Int) := by omega
    clear hout L3 hs3 HLI
    generalize wl.length - 1 = jj at *
    go_wp2_with fail
    go_roundw
    case rel => exact ⟨j, by have := HNJ.out; omega, by go_num, by rw [HST.out], HJN.out, HL3.out⟩
    case measure => have := HNJ.out; simp [intOf]; omega
  · have hngt : ¬ ((n : Int) > 0) := by omega
    obtain rfl : n = 0 := by omega
    clear hIr
    go_wp2_with fail
    go_ret
    exact ⟨rfl, Zd HB.out HL.out⟩
theorem Zl4 (k : Int) : max k 4 = Zbn k := by unfold Zbn; split <;> omega
theorem ZnK (aw aq : Option Addr) (cw cq : Nat) (d : Int) (ts : List Wb) (q : List Int) (k : Int) (w : World) (hv : ZC true w aw ts) (hq : Zp w aq q) (hsm : ZaY ts) (hql : q.length <= 1048576) (hqc : q.length <= cq) :
 Calls Tryz.prog 16 #[.agg #[.int .i64 d, .slice aw ts.length cw], .slice aq q.length cq, .int .i64 k] w fun e w' => ∃ a c, e = .returned (.slice a (Zez d ts q k).length c) /\ Zb8 w.heap.size w' (.slice a (Zez d ts q k).length c) (Zez d ts q k) /\ Below w.heap.size w w' := by
 obtain ⟨W, hW⟩ : ∃ W, w.alloc (.cells #[.int .i64 d, .slice aw ts.length cw] 26) = W := ⟨_, rfl⟩
 have hB : Below w.heap.size w W := by rw [<- hW]; exact (Below.refl _ _).alloc (Nat.le_refl _) _
 have hI : ZcK true W w.heap.size d aw cw ts := by rw [<- hW]; exact ZcK.box hv
 have HT := Za (ZhO aw cw d ts W hI.wv hsm)
 have HCK := Za (Zgs k W)
 have HB := Za hB
 have HI := Za hI
 have k0 := hI.c0
 have k1 := hI.c1
 have HQ := Za (hq.next hB)
 have HSM := Za hsm
 have HN : Hid (∀ W', Zb8 w.heap.size W' (.slice none 0 0) []) := fun W' => Or.inl ⟨rfl, rfl⟩
 clear hv hq hB hI hsm
 rcases hk : ZE k with _ | _
 · have HV := Za (Zdh (d := d) (ts := ts) (q := q) (Or.inr (Or.inr hk)))
   rw [hk] at HCK
   rw [HV.out]
   clear hk HV
   go_enter Tryz.func16, Tryz.ntmps16
   go_wp2_with fail
   refine HCK.out.mono ?_
   rintro e w1 ⟨rfl, hw1⟩
   subst hw1
   go_wp2_with fail
   go_ret
   exact ⟨none, 0, rfl, HN.out _, HB.out⟩
 rw [hk] at HCK
 have HKB := Za hk
 clear hk
 rcases ht : ZX d ts with _ | _
 · have HV := Za (Zdh (q := q) (k := k) (Or.inl ht))
   rw [ht] at HT
   rw [HV.out]
   clear ht HV
   go_enter Tryz.func16, Tryz.ntmps16
   go_wp2_with fail
   refine HCK.out.mono ?_
   rintro e w1 ⟨rfl, hw1⟩
   subst hw1
   go_wp2_with fail
   refine HT.out.mono ?_
   rintro e w2 ⟨rfl, L2⟩
   have HL2 := Za (Zd HB.out L2)
   clear L2
   go_wp2_with fail
   go_ret
   exact ⟨none, 0, rfl, HN.out _, HL2.out⟩
 rw [ht] at HT
 have hlen := (ZaP ht).1
 have HTT := Za ht
 have HLEN := Za hlen
 rw [hlen] at k1 hW HT ⊢
 clear ht hlen
 obtain ⟨R, hR⟩ : ∃ R, ZJ (Ze ts 0).1 q = R := ⟨_, rfl⟩
 have HSU : Hid (∀ W', Below W.heap.size W W' -> ∃ b off am cm al cl, aw = some ⟨b, off, none⟩ /\ b < W'.heap.size /\ W'.cell? ⟨b, off, none⟩ = some (.slice am (Ze ts 0).1.length cm) /\ W'.cell? ⟨b, off + 1, none⟩ = some (.slice al (Ze ts 0).2.length cl) /\ Zw W' am (Ze ts 0).1 /\ Zaj W' al (Ze ts 0).2 /\ (Ze ts 0).1.length <= cm /\ (Ze ts 0).2.length <= cl /\ Calls Tryz.prog 107 #[.slice aq q.length cq, .slice am (Ze ts 0).1.length cm] W' fun e w' => e = .returned (.bool R) /\ Below W'.heap.size W' w') := fun W' L' => by
  have hI' := HI.out.below L'
  obtain ⟨b, off, am, cm, al, cl, e, hb, c0, c1, hm, hc, hcap⟩ := hI'.web (n := 0) (by rw [HLEN.out]; omega)
  rw [Nat.zero_mul, Nat.add_zero] at c0 c1
  refine ⟨b, off, am, cm, al, cl, e, hb, c0, c1, hm, hc, (hcap rfl).1, (hcap rfl).2, ?_⟩
  have hh := Zgr am aq cm cq (Ze ts 0).1 q W' hm (HQ.out.next L') (HSM.out.2 0).1 hql
  rw [hR] at hh
  exact hh
 have HRR := Za hR
 clear hR
 cases R with
 | false =>
   have HV := Za (Zdh (d := d) (k := k) (Or.inr (Or.inl HRR.out)))
   rw [HV.out]
   clear HV
   go_enter Tryz.func16, Tryz.ntmps16
   go_wp2_with fail
   refine HCK.out.mono ?_
   rintro e w1 ⟨rfl, hw1⟩
   subst hw1
   go_wp2_with fail
   refine HT.out.mono ?_
   rintro e w2 ⟨rfl, L2⟩
   have k1' := (HI.out.below L2).c1
   rw [HLEN.out] at k1'
   obtain ⟨b, off, am, cm, al, cl, rfl, hb, c0, c1, -, -, -, -, hc⟩ := HSU.out w2 L2
   have HC := Za hc
   have HL2 := Za (Zd HB.out L2)
   clear L2 hc k0 k1 hW HT HCK
   go_wp2_with fail
   refine HC.out.mono ?_
   rintro e w3 ⟨rfl, L3⟩
   have HL3 := Za (Zd HL2.out L3)
   clear L3 c0 c1 k1'
   go_wp2_with fail
   go_ret
   exact ⟨none, 0, rfl, HN.out _, HL3.out⟩
 | true =>
   have HV := Za (Zfw HTT.out HRR.out HKB.out)
   rw [HV.out]
   clear HV
   by_cases hl0 : (Ze ts 0).1.length = 0
   · have HV := Za (Zej (q := q) (k := k) hl0)
     rw [HV.out]
     clear HV
     go_enter Tryz.func16, Tryz.ntmps16
     go_wp2_with fail
     refine HCK.out.mono ?_
     rintro e w1 ⟨rfl, hw1⟩
     subst hw1
     go_wp2_with fail
     refine HT.out.mono ?_
     rintro e w2 ⟨rfl, L2⟩
     have k1' := (HI.out.below L2).c1
     rw [HLEN.out] at k1'
     obtain ⟨b, off, am, cm, al, cl, rfl, hb, c0, c1, -, -, -, -, hc⟩ := HSU.out w2 L2
     have HC := Za hc
     have HL2 := Za L2
     clear L2 hc k0 k1 hW HT HCK
     rw [hl0] at HC c0
     go_wp2_with fail
     refine HC.out.mono ?_
     rintro e w3 ⟨rfl, L3⟩
     have HL3 := Za (Zd HL2.out L3)
     have k3 := (HI.out.below HL3.out).c1
     rw [HLEN.out] at k3
     have c3 := (L3.cell (p := ⟨b, off, none⟩) hb).trans c0
     clear L3 c0 c1 k1' hl0
     go_wp2_with fail
     go_ret
     exact ⟨none, 0, rfl, HN.out _, Zd HB.out HL3.out⟩
   · have HL0 : Hid (0 < (Ze ts 0).1.length) := by show 0 < _; omega
     have hkm := ZgI HKB.out
     have HIN := Za (Zeo HTT.out HRR.out (n := 0) (by omega) HL0.out)
     have HAS : Hid (Zcr ts q k = (Zau (Ze ts 0).1 (Ze ts 0).2 (Zah ts q 0) q (Zbn k)).take k.toNat) := rfl
     obtain ⟨bs, hbs⟩ : ∃ bs, Zau (Ze ts 0).1 (Ze ts 0).2 (Zah ts q 0) q (Zbn k) = bs := ⟨_, rfl⟩
     have HB60 : Hid (bs.length <= 60) := by show _ <= _; rw [<- hbs]; exact (ZeE _ _ _ _ _).2.2.2
     rw [hbs] at HAS
     have HBS := Za hbs
     have hlne : (((Ze ts 0).1.length : Int) == 0) = false := by rw [beq_eq_false_iff_ne]; omega
     clear hbs
     go_enter Tryz.func16, Tryz.ntmps16
     go_wp2_with fail
     refine HCK.out.mono ?_
     rintro e w1 ⟨rfl, hw1⟩
     subst hw1
     go_wp2_with fail
     refine HT.out.mono ?_
     rintro e w2 ⟨rfl, L2⟩
     have k1' := (HI.out.below L2).c1
     rw [HLEN.out] at k1'
     obtain ⟨b, off, am, cm, al, cl, rfl, hb, c0, c1, -, -, -, -, hc⟩ := HSU.out w2 L2
     have HC := Za hc
     have HL2 := Za L2
     clear L2 hc k0 k1 hW HT HCK
     go_wp2_with fail
     refine HC.out.mono ?_
     rintro e w3 ⟨rfl, L3⟩
     have HL3 := Za (Zd HL2.out L3)
     clear L3 c0 c1 k1' HC
     have hI3 := HI.out.below HL3.out
     have HX3 := hI3.lt
     have t0 := hI3.c0
     have t1 := hI3.c1
     rw [HLEN.out] at t1
     obtain ⟨b3, off3, am3, cm3, al3, cl3, eb, hb3, c0, c1, hm3, hc3, hcm, hcl, -⟩ := HSU.out w3 HL3.out
     injection eb with eb
     injection eb with eb1 eb2
     subst eb1 eb2
     have HK : Hid (∀ W', Below w3.heap.size w3 W' -> (W'.cell? ⟨w.heap.size, 0, none⟩ = some (.int .i64 d) /\ W'.cell? ⟨w.heap.size, 1, none⟩ = some (.slice (some ⟨b, off, none⟩) 4 cw)) /\ W'.cell? ⟨b, off, none⟩ = some (.slice am3 (Ze ts 0).1.length cm3) /\ W'.cell? ⟨b, off + 1, none⟩ = some (.slice al3 (Ze ts 0).2.length cl3)) := fun W' L' => ⟨⟨(L'.cell (p := ⟨w.heap.size, 0, none⟩) HX3).trans t0, (L'.cell (p := ⟨w.heap.size, 1, none⟩) HX3).trans t1⟩, (L'.cell (p := ⟨b, off, none⟩) hb3).trans c0, (L'.cell (p := ⟨b, off + 1, none⟩) hb3).trans c1⟩
     have HDE := Za (iDesc (some ⟨b, off, none⟩) aq cw cq d ts q w3.drew (hI3.below (Below.refl _ _).drew).wv ((HQ.out.next HL3.out).next (Below.refl _ _).drew) HSM.out hql hqc HTT.out HRR.out HL0.out)
     have HBE : Hid (∀ W', Below w3.heap.size w3 W' -> Calls Tryz.prog 108 #[.agg #[.slice am3 (Ze ts 0).1.length cm3, .slice al3 (Ze ts 0).2.length cl3], .int .i64 (Zah ts q 0), .slice aq q.length cq, .int .i64 (Zbn k)] W' fun e w' => ∃ a c, e = .returned (.slice a bs.length c) /\ Zb8 W'.heap.size w' (.slice a bs.length c) bs /\ Below W'.heap.size W' w') := fun W' L' => by
      have hh := Zmk am3 cm3 (Ze ts 0).1 al3 cl3 (Ze ts 0).2 (Zah ts q 0) aq cq q (Zbn k) W' (hm3.next L') (hc3.next L') ((HQ.out.next HL3.out).next L') (HSM.out.2 0).1 (HSM.out.2 0).2 hql hcm hcl hqc
      rw [HBS.out] at hh
      exact hh
     clear hI3 hm3 hc3 hcm hcl
     have hmx := Zl4 k
     generalize Zah ts q 0 = fr at *
     generalize (Ze ts 0).1.length = l1 at *
     generalize (Ze ts 0).2.length = l2 at *
     go_wp2_with fail
     refine Zr (S := fun w' => (w'.cell? ⟨w.heap.size, 0, none⟩ = some (.int .i64 d) /\ w'.cell? ⟨w.heap.size, 1, none⟩ = some (.slice (some ⟨b, off, none⟩) 4 cw)) /\ w'.cell? ⟨b, off, none⟩ = some (.slice am3 l1 cm3) /\ w'.cell? ⟨b, off + 1, none⟩ = some (.slice al3 l2 cl3)) (fuel := 3) [0, 1, 2, 3, 4, 5, 7, 8, 9] (by kernel_rfl) (by kernel_rfl) (by kernel_rfl) (by kernel_rfl) (HK.out _ ((Below.refl w3.heap.size w3).drew)) (fun _ => ?_)
     iterate 9
      refine ⟨_, rfl, ?_⟩
      apply Exists.intro
      refine ⟨Or.inl ⟨by rfl, fun w' hw' => ?_⟩, ?_⟩
      · first
        | (go_simp; done)
        | (go_simp; with_reducible rfl)
      simp only [Act.put, List.getElem_toArray, List.getElem_cons_succ, List.getElem_cons_zero, List.setIfInBounds_toArray, List.set_cons_zero, List.set_cons_succ]
     refine Zg 6 (by kernel_rfl) rfl (fun K hK => ?_)
     go_simp
     refine HDE.out.mono ?_
     rintro e w4 ⟨rfl, L4'⟩
     have L4 : Below w3.heap.size w3 w4 := Below.trans ((Below.refl w3.heap.size w3).drew) L4'
     refine hK.out _ _ (HK.out _ L4) (fun _ => ?_)
     clear hK K L4'
     refine Zg 10 (by kernel_rfl) rfl (fun K hK => ?_)
     go_simp
     refine (HBE.out _ L4).mono ?_
     rintro e w5 ⟨a5, c5, rfl, hout, L5'⟩
     have HL5 := Za (Zd L4 L5')
     have HO5 : Hid (Zb8 w.heap.size w5 (.slice a5 bs.length c5) bs) := hout.imp id fun ⟨g, c, e, hr⟩ => ⟨g, c, e, hr.mono (by have := L4.size; have := HL3.out.size; have := HB.out.size; omega)⟩
     refine hK.out _ _ (HK.out _ HL5.out) (fun _ => ?_)
     clear hK K L5' L4 hout
     refine ZH [11] rfl (by kernel_rfl) (by kernel_rfl) (by kernel_rfl) (HK.out _ HL5.out) ?_
     iterate 1
      refine ⟨_, rfl, ?_⟩
      apply Exists.intro
      refine ⟨Or.inl ⟨by rfl, fun w' hw' => ?_⟩, ?_⟩
      · first
        | (go_simp; done)
        | (go_simp; with_reducible rfl)
      simp only [Act.put, List.getElem_toArray, List.getElem_cons_succ, List.getElem_cons_zero, List.setIfInBounds_toArray, List.set_cons_zero, List.set_cons_succ]
     refine NoPanic.normal (NoPanic.normal ?_)
     obtain ⟨hcap, hnn⟩ := HO5.out.cap15
     have hb60 := HB60.out
     obtain ⟨m, hm⟩ : ∃ m, min k.toNat bs.length = m := ⟨_, rfl⟩
     have hmin : min k (bs.length : Int) = (m : Int) := by rw [<- hm]; omega
     have hm0 : (0 : Int) <= (m : Int) := Int.natCast_nonneg _
     have hmc : (m : Int) <= (c5 : Int) := by omega
     have HM := Za hm
     have HF := Za (Zd HB.out (Zd HL3.out HL5.out))
     clear HK HBE HL5 hm c0 c1 t0 t1 hnn
     try simp only [Exit.then]
     go_wp2_with fail
     go_ret
     rw [HAS.out]
     have hml : (bs.take k.toNat).length = m := by rw [List.length_take]; exact HM.out
     have hmb : m <= bs.length := by rw [<- hml, List.length_take]; omega
     have het : bs.take m = bs.take k.toNat := by
      rw [<- HM.out]
      rcases Nat.le_total k.toNat bs.length with h | h
      · rw [Nat.min_eq_left h]
      · rw [Nat.min_eq_right h, List.take_length, List.take_of_length_le h]
     refine ⟨a5, c5, by rw [hml]; rfl, ?_, HF.out⟩
     rw [hml, <- het]
     exact HO5.out.take15 m hmb
end Go.Proofs.YtaaagmgglolibaaGreat
