/-
  FnQuant's walk, over what the program's own functions answer.
-/
import Derived.Test.YthkaiienfkihmaaLvDrw2
import Derived.Test.YthkaiienfkihmaaLvWlk2
import Derived.Test.YthkaiienfkihmaaImpl
namespace Go.Proofs.Ythkaiienfkihmaa
open Go Go.RowKit

theorem IOut.ptIn {base : Nat} {w : World} {a : Option Addr} {c : Nat} {xs : List Int} (h : IOut base w (.slice a xs.length c) xs) (h5 : xs.length ≤ 5) : PtIn w a c xs := by
  rcases h with ⟨e, rfl⟩ | ⟨g, c', e, hr⟩
  · exact ⟨Or.inl rfl, h5, Nat.zero_le _⟩
  · cases e; exact ⟨hr.view, h5, Row.room hr⟩
theorem PtIn.len {w : World} {a : Option Addr} {c : Nat} {xs : List Int} (h : PtIn w a c xs) : xs.length ≤ 1048576 := by have := h.2.1; omega
theorem below_dr {w W : World} (h : Below w.heap.size w W) (n : Nat) : Below w.heap.size w (W.drewN n) := ⟨h.os, h.tape, h.output, h.size, h.block⟩
theorem qCod (HC : ICoded) {W : World} {a b : Option Addr} {c d : Nat} {xs : List Int} {ls : List (List Int)} (hp : PtIn W a c xs) (hl : LvIn W b d ls) :
    Calls Try.prog 11 #[.slice a xs.length c, .slice b ls.length d] W fun e w' => ∃ a' c', e = .returned (.slice a' (codL xs ls).length c') ∧ PtIn w' a' c' (codL xs ls) ∧ Below W.heap.size W w' := by
  refine (HC a c xs b d ls W hp.1 hp.len hp.2.2 hl.1 hl.small hl.2.2).mono ?_
  rintro e w' ⟨a', c', rfl, ho, L⟩
  exact ⟨a', c', rfl, ho.ptIn (by have := codL_four xs ls; omega), L⟩
theorem qCodS {W : World} {a b : Option Addr} {c d : Nat} {xs : List Int} {ls : List (List Int)} (hp : PtIn W a c xs) (hl : LvIn W b d ls) :
    Calls Try.prog 15 #[.slice a xs.length c, .slice b ls.length d] W fun e w' => ∃ a' c', e = .returned (.slice a' (codL xs ls).length c') ∧ PtIn w' a' c' (codL xs ls) ∧ Below W.heap.size W w' := by
  refine (sCoded a b c d xs ls W hp.1 hl.1 hp.len hl.small).mono ?_
  rintro e w' ⟨g, c', rfl, hr, L⟩
  exact ⟨_, c', rfl, ⟨hr.view, by have := codL_four xs ls; omega, Row.room hr⟩, L⟩
theorem qDec (HC : IDecoded) {W : World} {a b : Option Addr} {c d : Nat} {xs : List Int} {ls : List (List Int)} (hp : PtIn W a c xs) (hl : LvIn W b d ls) :
    Calls Try.prog 16 #[.slice a xs.length c, .slice b ls.length d] W fun e w' => ∃ a' c', e = .returned (.slice a' (decL xs ls).length c') ∧ PtIn w' a' c' (decL xs ls) ∧ Below W.heap.size W w' := by
  refine (HC a c xs b d ls W hp.1 hp.len hp.2.2 hl.1 hl.small hl.2.2).mono ?_
  rintro e w' ⟨a', c', rfl, ho, L⟩
  exact ⟨a', c', rfl, ho.ptIn (by have := decL_four xs ls; omega), L⟩
theorem qDecS {W : World} {a b : Option Addr} {c d : Nat} {xs : List Int} {ls : List (List Int)} (hp : PtIn W a c xs) (hl : LvIn W b d ls) :
    Calls Try.prog 17 #[.slice a xs.length c, .slice b ls.length d] W fun e w' => ∃ a' c', e = .returned (.slice a' (decL xs ls).length c') ∧ PtIn w' a' c' (decL xs ls) ∧ Below W.heap.size W w' := by
  refine (sDecoded a b c d xs ls W hp.1 hl.1 hl.small).mono ?_
  rintro e w' ⟨g, c', rfl, hr, L⟩
  exact ⟨_, c', rfl, ⟨hr.view, by have := decL_four xs ls; omega, Row.room hr⟩, L⟩
theorem qLike {W : World} {a b : Option Addr} {c d : Nat} {xs : List Int} (hp : PtIn W a c xs) (hl : PtIn W b d xs) :
    Calls Try.prog 14 #[.slice a xs.length c, .slice b xs.length d] W fun e w' => e = .returned (.bool true) ∧ Below W.heap.size W w' := by
  refine (likeS a b c d xs xs W hp.1 hl.1 hp.len).mono ?_
  rintro e w' ⟨rfl, n, rfl⟩
  exact ⟨by simp, below_dr (Below.refl _ _) n⟩
theorem qOff (HC : IOff) {W : World} {a b : Option Addr} {c d : Nat} {xs : List Int} {ls : List (List Int)} (hp : PtIn W a c xs) (hl : LvIn W b d ls) :
    Calls Try.prog 18 #[.slice a xs.length c, .slice b ls.length d] W fun e w' => e = .returned (.int .i64 (offV xs ls)) ∧ Below W.heap.size W w' :=
  HC a c xs b d ls W hp.1 hp.len hp.2.2 hl.1 hl.small hl.2.2
theorem qOffS {W : World} {a b : Option Addr} {c d : Nat} {xs : List Int} {ls : List (List Int)} (hp : PtIn W a c xs) (hl : LvIn W b d ls) :
    Calls Try.prog 19 #[.slice a xs.length c, .slice b ls.length d] W fun e w' => e = .returned (.int .i64 (offV xs ls)) ∧ Below W.heap.size W w' :=
  sOff a b c d xs ls W hp.1 hl.1 hp.len hl.small
theorem qSum (HC : ISumL) {W : World} {a f b : Option Addr} {c h d : Nat} {xs ys : List Int} {ls : List (List Int)} (hp : PtIn W a c xs) (hq : PtIn W f h ys) (hl : LvIn W b d ls) :
    Calls Try.prog 20 #[.slice a xs.length c, .slice f ys.length h, .slice b ls.length d] W fun e w' => e = .returned (.int .i64 (sumLV xs ys ls)) ∧ Below W.heap.size W w' :=
  HC a c xs f h ys b d ls W hp.1 hp.len hp.2.2 hq.1 hq.len hq.2.2 hl.1 hl.small hl.2.2
theorem qSumS {W : World} {a f b : Option Addr} {c h d : Nat} {xs ys : List Int} {ls : List (List Int)} (hp : PtIn W a c xs) (hq : PtIn W f h ys) (hl : LvIn W b d ls) :
    Calls Try.prog 21 #[.slice a xs.length c, .slice f ys.length h, .slice b ls.length d] W fun e w' => e = .returned (.int .i64 (sumLV xs ys ls)) ∧ Below W.heap.size W w' :=
  sSumL a f b c h d xs ys ls W hp.1 hq.1 hl.1 hp.len hl.small
theorem qLevS {W : World} {b : Option Addr} {d : Nat} {ls : List (List Int)} (hl : LvIn W b d ls) :
    Calls Try.prog 23 #[.slice b ls.length d] W fun e w' => e = .returned (.bool (levB ls)) ∧ Below W.heap.size W w' := by
  refine (sLevels b d ls W hl.1 hl.small).mono ?_
  rintro e w' ⟨rfl, n, rfl⟩
  exact ⟨rfl, below_dr (Below.refl _ _) n⟩
theorem qSteps {W : World} {a b : Option Addr} {c d : Nat} {xs ys : List Int} (hp : PtIn W a c xs) (hl : PtIn W b d ys) :
    Calls Try.prog 24 #[.slice a xs.length c, .slice b ys.length d] W fun e w' => e = .returned (.int .i64 (stepsV xs ys)) ∧ Below W.heap.size W w' :=
  iSteps a b c d xs ys W hp.1 hl.1 hp.len hl.len
theorem stepsV_bd (a b : List Int) : -1 ≤ stepsV a b ∧ stepsV a b ≤ 100000 := by
  unfold stepsV
  split
  · rename_i h
    obtain ⟨ha, hb, -⟩ := twoB_of h
    have h4 := okB_len ha
    have := sumTo_le (gapF a b) 0 2000 (fun i => gapF_bd ha hb i) a.length
    omega
  · omega

set_option maxRecDepth 100000 in
set_option maxHeartbeats 4000000 in
theorem walkQuant (HC0 : ICoded) (HD0 : IDecoded) (HO0 : IOff) (HS0 : ISumL) (HL0 : ILevels) (ao0 : Option Addr) (len0 cap0 : Nat) (w : World) (hv0 : CodeV w ao0 len0) :
    Calls Try.prog 3 #[.slice ao0 len0 cap0] w fun e w' => e = .returned (.bool true) ∧ Below w.heap.size w w' := by
  have HC := hidP HC0
  have HD := hidP HD0
  have HO := hidP HO0
  have HS := hidP HS0
  have HL := hidP HL0
  clear HC0 HD0 HO0 HS0 HL0
  by_cases hbig : 4096 < len0
  · have hbb : decide (4096 < (len0 : Int)) = true := by simp; omega
    go_enter Try.func3, Try.ntmps3
    go_wp2_with fail
    refine (bigC ao0 len0 cap0 _).mono ?_
    rintro e w1 ⟨rfl, hw1⟩
    subst hw1
    go_wp2_with fail
    go_ret
    exact ⟨rfl, Below.refl _ _⟩
  have hbb : decide (4096 < (len0 : Int)) = false := by simp; omega
  have hn : len0 ≤ 4096 := by omega
  have HV0 := hidP hv0
  clear hbig hv0
  go_enter Try.func3, Try.ntmps3
  go_wp2_with fail
  refine (bigC ao0 len0 cap0 _).mono ?_
  rintro e w0 ⟨rfl, hw0⟩
  subst hw0
  rw [hbb]
  clear hbb
  go_wp2_with fail
  refine (cDrawCod ao0 len0 cap0 _ HV0.out hn).mono ?_
  rintro e w1 ⟨ap, cp, p, bl, dl, l, rfl, hp, hl, L1⟩
  have V1 := hidP (HV0.out.below (Nat.le_refl _) L1)
  have HP1 := hidP (And.intro hp hl)
  have HB1 := hidP L1
  clear hp hl L1 HV0
  go_wp2_with fail
  refine (qCod HC.out HP1.out.1 HP1.out.2).mono ?_
  rintro e w2 ⟨ac, cc, rfl, hc, L2⟩
  have V2 := hidP (V1.out.below (Nat.le_refl _) L2)
  have HP2 := hidP (And.intro (HP1.out.1.next L2) (And.intro (HP1.out.2.next L2) hc))
  have HB2 := hidP (chain HB1.out L2)
  clear hc L2 HP1 V1 HB1
  go_wp2_with fail
  refine (cDrawDec ao0 len0 cap0 _ V2.out hn).mono ?_
  rintro e w3 ⟨ak, ck, k, bm, dm, m, rfl, hk, hm, L3⟩
  have V3 := hidP (V2.out.below (Nat.le_refl _) L3)
  have HP3 := hidP (And.intro (HP2.out.1.next L3) (And.intro (HP2.out.2.1.next L3) (HP2.out.2.2.next L3)))
  have HK3 := hidP (And.intro hk hm)
  have HB3 := hidP (chain HB2.out L3)
  clear hk hm L3 HP2 V2 HB2
  go_wp2_with fail
  refine (cDrawSum ao0 len0 cap0 _ V3.out hn).mono ?_
  rintro e w4 ⟨aq, cq, q, ae, ce, ee, bn, dn, nn, rfl, hq, he, hnn, L4⟩
  have HF : Hid (∀ W, Below w4.heap.size w4 W → (PtIn W ap cp p ∧ LvIn W bl dl l ∧ PtIn W ac cc (codL p l)) ∧ (PtIn W ak ck k ∧ LvIn W bm dm m) ∧ (PtIn W aq cq q ∧ PtIn W ae ce ee ∧ LvIn W bn dn nn) ∧ CodeV W ao0 len0 ∧ Below w.heap.size w W) := fun W L =>
    ⟨⟨(HP3.out.1.next L4).next L, (HP3.out.2.1.next L4).next L, (HP3.out.2.2.next L4).next L⟩, ⟨(HK3.out.1.next L4).next L, (HK3.out.2.next L4).next L⟩, ⟨hq.next L, he.next L, hnn.next L⟩, (V3.out.below (Nat.le_refl _) L4).below (Nat.le_refl _) L, chain (chain HB3.out L4) L⟩
  clear hq he hnn L4 HP3 HK3 V3 HB3
  have M0 : Below w4.heap.size w4 w4 := Below.refl _ _
  go_wp2_with fail
  refine (qCodS (HF.out _ M0).1.1 (HF.out _ M0).1.2.1).mono ?_
  rintro e w5 ⟨a5, c5, rfl, hp5, L5⟩
  have M5 := chain M0 L5
  clear M0 L5
  have HP5 := hidP hp5
  clear hp5
  go_wp2_with fail
  refine (qLike (HF.out _ M5).1.2.2 HP5.out).mono ?_
  rintro e w6 ⟨rfl, L6⟩
  have M6 := chain M5 L6
  clear M5 L6 HP5
  go_wp2_with fail
  refine (qDec HD.out (HF.out _ M6).2.1.1 (HF.out _ M6).2.1.2).mono ?_
  rintro e w7 ⟨a7, c7, rfl, hp7, L7⟩
  have M7 := chain M6 L7
  have HP7 := hidP hp7
  clear M6 L7 hp7
  go_wp2_with fail
  refine (qDecS (HF.out _ M7).2.1.1 (HF.out _ M7).2.1.2).mono ?_
  rintro e w8 ⟨a8, c8, rfl, hp8, L8⟩
  have M8 := chain M7 L8
  have HP8 := hidP (And.intro (HP7.out.next L8) hp8)
  clear M7 L8 hp8 HP7
  go_wp2_with fail
  refine (qLike HP8.out.1 HP8.out.2).mono ?_
  rintro e w9 ⟨rfl, L9⟩
  have M9 := chain M8 L9
  clear M8 L9 HP8
  go_wp2_with fail
  refine (qOff HO.out (HF.out _ M9).1.1 (HF.out _ M9).1.2.1).mono ?_
  rintro e w10 ⟨rfl, L10⟩
  have M10 := chain M9 L10
  clear M9 L10
  go_wp2_with fail
  refine (qOffS (HF.out _ M10).1.1 (HF.out _ M10).1.2.1).mono ?_
  rintro e w11 ⟨rfl, L11⟩
  have M11 := chain M10 L11
  clear M10 L11
  obtain ⟨off, hoff⟩ : ∃ off, off = offV p l := ⟨_, rfl⟩
  rw [← hoff]
  have HOF := hidP hoff
  clear hoff
  go_wp2_with fail
  refine (qSum HS.out (HF.out _ M11).2.2.1.1 (HF.out _ M11).2.2.1.2.1 (HF.out _ M11).2.2.1.2.2).mono ?_
  rintro e w12 ⟨rfl, L12⟩
  have M12 := chain M11 L12
  clear M11 L12
  go_wp2_with fail
  refine (qSumS (HF.out _ M12).2.2.1.1 (HF.out _ M12).2.2.1.2.1 (HF.out _ M12).2.2.1.2.2).mono ?_
  rintro e w13 ⟨rfl, L13⟩
  have M13 := chain M12 L13
  clear M12 L13
  generalize sumLV q ee nn = sm
  go_wp2_with fail
  refine (HL.out bl dl l _ (HF.out _ M13).1.2.1.1 (HF.out _ M13).1.2.1.small (HF.out _ M13).1.2.1.2.2).mono ?_
  rintro e w14 ⟨rfl, L14⟩
  have M14 := chain M13 L14
  clear M13 L14
  go_wp2_with fail
  refine (qLevS (HF.out _ M14).1.2.1).mono ?_
  rintro e w15 ⟨rfl, L15⟩
  have M15 := chain M14 L15
  clear M14 L15
  have HM := hidP M15
  clear M15
  generalize levB l = lb
  have hlb : (lb != lb) = false := by cases lb <;> rfl
  cases hcb : codB p l with
  | false =>
    have hcl : (codL p l).length = 0 := by rw [codL_no hcb]; rfl
    rw [hcl]
    have hof : off = -1 := HOF.out.trans (off_none hcb)
    have HCB := hidP hcb
    clear hcb hcl
    go_wp2_with fail
    refine (qOff HO.out (HF.out _ HM.out).1.1 (HF.out _ HM.out).1.2.1).mono ?_
    rintro e w16 ⟨rfl, L16⟩
    rw [← HOF.out, hof]
    have HB := hidP (HF.out _ (chain HM.out L16)).2.2.2.2
    clear L16
    go_wp2_with fail
    go_ret
    exact ⟨rfl, HB.out⟩
  | true =>
    obtain ⟨g1, g2, g3⟩ := (codB_iff p l).1 hcb
    obtain ⟨g4, g5, g6⟩ := (levB_iff l).1 g1
    have hcl := codL_len hcb
    have hdd := cod_dec hcb
    have hdo := dec_ok hdd
    have hdl := decL_len hdd
    have hag := cod_again hcb
    have HNEAR := hidP (fun (i j : Nat) (hi : i < l.length) (hj : j < (cn l i).length) => cod_near hcb hi hj)
    have HTHIRD := hidP (fun (x : List Int) (hx : okB x = true) (hl : x.length = p.length) => off_third hcb hx hl)
    have hst : off = stepsV p (decL (codL p l) l) := HOF.out
    rw [← HOF.out] at HTHIRD
    obtain ⟨C, hC⟩ : ∃ C, C = codL p l := ⟨_, rfl⟩
    rw [← hC] at HF hcl hdd hdo hdl hag HNEAR HTHIRD hst ⊢
    obtain ⟨D, hD⟩ : ∃ D, D = decL C l := ⟨_, rfl⟩
    rw [← hD] at hdo hdl hag HNEAR hst
    have HG6 := hidP g6
    have HDO := hidP (And.intro hdo g2)
    have HHD := hidP (And.intro hD hag)
    have HST := hidP hst
    have hp0 : 0 < p.length := by omega
    have hp4 : p.length ≤ 4 := by omega
    have HLEN : Hid (p.length = l.length ∧ D.length = p.length ∧ C.length = p.length) := ⟨by omega, by omega, by omega⟩
    have hczn : (C.length : Int) ≠ 0 := by omega
    have hD0 : 0 < D.length := by omega
    clear g6 hdo g2 hC hD hag hst g1 hdd hcb hdl hcl g3
    have hczb : ((C.length : Int) == 0) = false := beq_eq_false_iff_ne.2 hczn
    clear hczn
    go_wp2_with fail
    refine (qDec HD.out (HF.out _ HM.out).1.2.2 (HF.out _ HM.out).1.2.1).mono ?_
    rintro e w16 ⟨ad, cd, rfl, hd16, L16⟩
    rw [← HHD.out.1] at hd16 ⊢
    have M16 := chain HM.out L16
    have HP16 := hidP hd16
    clear L16 hd16 HM
    go_wp2_with fail
    refine (qOff HO.out (HF.out _ M16).1.1 (HF.out _ M16).1.2.1).mono ?_
    rintro e w17 ⟨rfl, L17⟩
    rw [← HOF.out]
    have M17 := chain M16 L17
    have HP17 := hidP (HP16.out.next L17)
    clear L17 M16 HP16
    go_wp2_with fail
    refine (qCod HC.out HP17.out (HF.out _ M17).1.2.1).mono ?_
    rintro e w18 ⟨a18, c18, rfl, hp18, L18⟩
    rw [HHD.out.2] at hp18 ⊢
    have M18 := chain M17 L18
    have HP18 := hidP (And.intro (HP17.out.next L18) hp18)
    clear L18 M17 HP17 hp18
    go_wp2_with fail
    refine (qLike HP18.out.2 (HF.out _ M18).1.2.2).mono ?_
    rintro e w19 ⟨rfl, L19⟩
    have M19 := chain M18 L19
    have HP19 := hidP (HP18.out.1.next L19)
    clear L19 M18 HP18
    go_wp2_with fail
    refine (qSteps (HF.out _ M19).1.1 HP19.out).mono ?_
    rintro e w20 ⟨rfl, L20⟩
    rw [← HST.out]
    have M20 := hidP (chain M19 L20)
    have HP20 := hidP (HP19.out.next L20)
    clear L20 M19 HP19
    obtain ⟨bp, op, rfl, hbp, hsp⟩ := (HF.out _ M20.out).1.1.1.seg hp0
    obtain ⟨bb, ob, rfl, hbb, hsl⟩ := (HF.out _ M20.out).1.2.1.1.seg (by omega)
    obtain ⟨bd, od, rfl, hbd, hsd⟩ := HP20.out.1.seg (by omega)
    have HSP := hidP hsp
    have HSL := hidP hsl
    have HSD := hidP hsd
    clear hsp hsl hsd
    go_wp2_with fail
    go_loopw [13] (fun i wr => ∃ k : Nat, k ≤ p.length ∧ i = .int .i64 k ∧ ∃ n, wr = w20.drewN n) (fun i _ => p.length - (intOf i).toNat)
    case atStart => exact ⟨0, Nat.zero_le _, rfl, 0, rfl⟩
    case round =>
      obtain ⟨k, hk, rfl, hw⟩ := hrel
      have HW := hidP hw
      clear hw
      by_cases hlt : k < p.length
      · have hkl : k < l.length := by have := HLEN.out.1; omega
        have hkD : k < D.length := by have := HLEN.out.2.1; omega
        obtain ⟨am, cm, hcm, vm⟩ := HSL.out k hkl
        have hlo := HG6.out k hkl
        have hl1 := ((lvOk_iff _).1 hlo).1
        have hl16 := ((lvOk_iff _).1 hlo).2.1
        obtain ⟨bm', om, rfl, hbm, hsm⟩ := vm.seg (by omega)
        have HSM := hidP hsm
        have HAT := hidP (fun t (h : t < (cn l k).length) => lvOk_at hlo h)
        have HNR := hidP (fun t (h : t < (cn l k).length) => HNEAR.out k t hkl h)
        have hx := okB_at HDO.out.2 k
        have hdv := okB_at HDO.out.1 k
        have hqp := HSP.out k hlt
        have hqd := HSD.out k hkD
        have HCM := hidP hcm
        have hi0 : (0 : Int) ≤ (k : Int) := Int.natCast_nonneg _
        have hi1 : (k : Int) < (p.length : Int) := by omega
        have hi2 : (k : Int) < (l.length : Int) := by omega
        have hi3 : (k : Int) < (D.length : Int) := by omega
        clear hsm vm hcm hlo
        generalize cn l k = lk at *
        generalize nth p k = x at *
        generalize nth D k = dv at *
        have HQ := hidP (And.intro hqp hqd)
        clear hqp hqd
        go_wp2_with fail
        go_loopw [14] (fun i wr => ∃ t : Nat, t ≤ lk.length ∧ i = .int .i64 t ∧ ∃ n, wr = w20.drewN n) (fun i _ => lk.length - (intOf i).toNat)
        case atStart => exact ⟨0, Nat.zero_le _, rfl, HW.out⟩
        case round =>
          obtain ⟨t, ht, rfl, hw⟩ := hrel
          have HW2 := hidP hw
          have qm : wr.cell? ⟨bb, ob + k, none⟩ = some (.slice (some ⟨bm', om, none⟩) lk.length cm) := by obtain ⟨n, e⟩ := hw; rw [e]; exact HCM.out
          have qp : wr.cell? ⟨bp, op + k, none⟩ = some (.int .i64 x) := by obtain ⟨n, e⟩ := hw; rw [e]; exact HQ.out.1
          have qd : wr.cell? ⟨bd, od + k, none⟩ = some (.int .i64 dv) := by obtain ⟨n, e⟩ := hw; rw [e]; exact HQ.out.2
          by_cases hlt2 : t < lk.length
          · have ql : wr.cell? ⟨bm', om + t, none⟩ = some (.int .i64 (nth lk t)) := by obtain ⟨n, e⟩ := hw; rw [e]; exact HSM.out t hlt2
            have hlv := HAT.out t hlt2
            have hnr := HNR.out t hlt2
            unfold lvD at hnr
            have ht0 : (0 : Int) ≤ (t : Int) := Int.natCast_nonneg _
            have ht1 : (t : Int) < (lk.length : Int) := by omega
            clear hw
            generalize nth lk t = y at *
            obtain ⟨u, hu⟩ : ∃ u, u = x - y := ⟨_, rfl⟩
            obtain ⟨v, hv⟩ : ∃ v, v = x - dv := ⟨_, rfl⟩
            have hw0 : IntKind.i64.wrap (x - y) = u := by rw [hu]; exact IntWalk.i64_in _ ⟨by omega, by omega⟩
            have hw1 : IntKind.i64.wrap (x - dv) = v := by rw [hv]; exact IntWalk.i64_in _ ⟨by omega, by omega⟩
            have hnu : -2000 ≤ u ∧ u ≤ 2000 ∧ -2000 ≤ v ∧ v ≤ 2000 ∧ ¬ ((u.natAbs : Int) < (v.natAbs : Int) ∨ ((u.natAbs : Int) = (v.natAbs : Int) ∧ y < dv)) := ⟨by omega, by omega, by omega, by omega, by rw [hu, hv]; exact hnr⟩
            obtain ⟨u', hu'⟩ : ∃ u', u' = -u := ⟨_, rfl⟩
            obtain ⟨v', hv'⟩ : ∃ v', v' = -v := ⟨_, rfl⟩
            have hn0 : IntKind.i64.wrap (-u) = u' := by rw [hu']; exact IntWalk.i64_in _ ⟨by omega, by omega⟩
            have hn1 : IntKind.i64.wrap (-v) = v' := by rw [hv']; exact IntWalk.i64_in _ ⟨by omega, by omega⟩
            clear hnr hlv hu hv hx hdv
            by_cases s1 : u < 0
            · have g1 : decide (u < 0) = true := decide_eq_true (by omega)
              by_cases s2 : v < 0
              · have g2 : decide (v < 0) = true := decide_eq_true (by omega)
                have g3 : decide (u' < v') = false := decide_eq_false (by omega)
                by_cases hE : u' = v'
                · have g4 : (u' == v') = true := beq_iff_eq.2 hE
                  have g5 : decide (y < dv) = false := decide_eq_false (by omega)
                  clear hE hu' hv' hnu
                  go_wp2_with fail
                  go_quiet (fail)
                  go_wp2_with fail
                  go_quiet (fail)
                  go_wp2_with fail
                  refine wp_region_quiet_lit (by kernel_rfl) (by kernel_rfl) ?_
                  try simp only [List.append_eq, List.cons_append, List.nil_append]
                  repeat (go_big_quiet_step (fail))
                  refine wpQuiet_nil ?_
                  intro _ hw'
                  obtain ⟨nq2, hw''⟩ := hw'
                  subst hw''
                  go_wp2_with fail
                  go_roundw
                  case rel => exact ⟨t + 1, by omega, by go_num, by obtain ⟨d, e⟩ := HW2.out; exact ⟨_, by rw [e]; simp only [World.drewN_drewN]; rfl⟩⟩
                  case measure => simp [intOf]; omega
                · have g4 : (u' == v') = false := beq_eq_false_iff_ne.2 hE
                  clear hE hu' hv' hnu
                  go_wp2_with fail
                  go_quiet (fail)
                  go_wp2_with fail
                  go_quiet (fail)
                  go_wp2_with fail
                  refine wp_region_quiet_lit (by kernel_rfl) (by kernel_rfl) ?_
                  try simp only [List.append_eq, List.cons_append, List.nil_append]
                  repeat (go_big_quiet_step (fail))
                  refine wpQuiet_nil ?_
                  intro _ hw'
                  obtain ⟨nq2, hw''⟩ := hw'
                  subst hw''
                  go_wp2_with fail
                  go_roundw
                  case rel => exact ⟨t + 1, by omega, by go_num, by obtain ⟨d, e⟩ := HW2.out; exact ⟨_, by rw [e]; simp only [World.drewN_drewN]; rfl⟩⟩
                  case measure => simp [intOf]; omega
              · have g2 : decide (v < 0) = false := decide_eq_false (by omega)
                have g3 : decide (u' < v) = false := decide_eq_false (by omega)
                by_cases hE : u' = v
                · have g4 : (u' == v) = true := beq_iff_eq.2 hE
                  have g5 : decide (y < dv) = false := decide_eq_false (by omega)
                  clear hE hu' hv' hnu
                  go_wp2_with fail
                  go_quiet (fail)
                  go_wp2_with fail
                  go_quiet (fail)
                  go_wp2_with fail
                  refine wp_region_quiet_lit (by kernel_rfl) (by kernel_rfl) ?_
                  try simp only [List.append_eq, List.cons_append, List.nil_append]
                  repeat (go_big_quiet_step (fail))
                  refine wpQuiet_nil ?_
                  intro _ hw'
                  obtain ⟨nq2, hw''⟩ := hw'
                  subst hw''
                  go_wp2_with fail
                  go_roundw
                  case rel => exact ⟨t + 1, by omega, by go_num, by obtain ⟨d, e⟩ := HW2.out; exact ⟨_, by rw [e]; simp only [World.drewN_drewN]; rfl⟩⟩
                  case measure => simp [intOf]; omega
                · have g4 : (u' == v) = false := beq_eq_false_iff_ne.2 hE
                  clear hE hu' hv' hnu
                  go_wp2_with fail
                  go_quiet (fail)
                  go_wp2_with fail
                  go_quiet (fail)
                  go_wp2_with fail
                  refine wp_region_quiet_lit (by kernel_rfl) (by kernel_rfl) ?_
                  try simp only [List.append_eq, List.cons_append, List.nil_append]
                  repeat (go_big_quiet_step (fail))
                  refine wpQuiet_nil ?_
                  intro _ hw'
                  obtain ⟨nq2, hw''⟩ := hw'
                  subst hw''
                  go_wp2_with fail
                  go_roundw
                  case rel => exact ⟨t + 1, by omega, by go_num, by obtain ⟨d, e⟩ := HW2.out; exact ⟨_, by rw [e]; simp only [World.drewN_drewN]; rfl⟩⟩
                  case measure => simp [intOf]; omega
            · have g1 : decide (u < 0) = false := decide_eq_false (by omega)
              by_cases s2 : v < 0
              · have g2 : decide (v < 0) = true := decide_eq_true (by omega)
                have g3 : decide (u < v') = false := decide_eq_false (by omega)
                by_cases hE : u = v'
                · have g4 : (u == v') = true := beq_iff_eq.2 hE
                  have g5 : decide (y < dv) = false := decide_eq_false (by omega)
                  clear hE hu' hv' hnu
                  go_wp2_with fail
                  go_quiet (fail)
                  go_wp2_with fail
                  go_quiet (fail)
                  go_wp2_with fail
                  refine wp_region_quiet_lit (by kernel_rfl) (by kernel_rfl) ?_
                  try simp only [List.append_eq, List.cons_append, List.nil_append]
                  repeat (go_big_quiet_step (fail))
                  refine wpQuiet_nil ?_
                  intro _ hw'
                  obtain ⟨nq2, hw''⟩ := hw'
                  subst hw''
                  go_wp2_with fail
                  go_roundw
                  case rel => exact ⟨t + 1, by omega, by go_num, by obtain ⟨d, e⟩ := HW2.out; exact ⟨_, by rw [e]; simp only [World.drewN_drewN]; rfl⟩⟩
                  case measure => simp [intOf]; omega
                · have g4 : (u == v') = false := beq_eq_false_iff_ne.2 hE
                  clear hE hu' hv' hnu
                  go_wp2_with fail
                  go_quiet (fail)
                  go_wp2_with fail
                  go_quiet (fail)
                  go_wp2_with fail
                  refine wp_region_quiet_lit (by kernel_rfl) (by kernel_rfl) ?_
                  try simp only [List.append_eq, List.cons_append, List.nil_append]
                  repeat (go_big_quiet_step (fail))
                  refine wpQuiet_nil ?_
                  intro _ hw'
                  obtain ⟨nq2, hw''⟩ := hw'
                  subst hw''
                  go_wp2_with fail
                  go_roundw
                  case rel => exact ⟨t + 1, by omega, by go_num, by obtain ⟨d, e⟩ := HW2.out; exact ⟨_, by rw [e]; simp only [World.drewN_drewN]; rfl⟩⟩
                  case measure => simp [intOf]; omega
              · have g2 : decide (v < 0) = false := decide_eq_false (by omega)
                have g3 : decide (u < v) = false := decide_eq_false (by omega)
                by_cases hE : u = v
                · have g4 : (u == v) = true := beq_iff_eq.2 hE
                  have g5 : decide (y < dv) = false := decide_eq_false (by omega)
                  clear hE hu' hv' hnu
                  go_wp2_with fail
                  go_quiet (fail)
                  go_wp2_with fail
                  go_quiet (fail)
                  go_wp2_with fail
                  refine wp_region_quiet_lit (by kernel_rfl) (by kernel_rfl) ?_
                  try simp only [List.append_eq, List.cons_append, List.nil_append]
                  repeat (go_big_quiet_step (fail))
                  refine wpQuiet_nil ?_
                  intro _ hw'
                  obtain ⟨nq2, hw''⟩ := hw'
                  subst hw''
                  go_wp2_with fail
                  go_roundw
                  case rel => exact ⟨t + 1, by omega, by go_num, by obtain ⟨d, e⟩ := HW2.out; exact ⟨_, by rw [e]; simp only [World.drewN_drewN]; rfl⟩⟩
                  case measure => simp [intOf]; omega
                · have g4 : (u == v) = false := beq_eq_false_iff_ne.2 hE
                  clear hE hu' hv' hnu
                  go_wp2_with fail
                  go_quiet (fail)
                  go_wp2_with fail
                  go_quiet (fail)
                  go_wp2_with fail
                  refine wp_region_quiet_lit (by kernel_rfl) (by kernel_rfl) ?_
                  try simp only [List.append_eq, List.cons_append, List.nil_append]
                  repeat (go_big_quiet_step (fail))
                  refine wpQuiet_nil ?_
                  intro _ hw'
                  obtain ⟨nq2, hw''⟩ := hw'
                  subst hw''
                  go_wp2_with fail
                  go_roundw
                  case rel => exact ⟨t + 1, by omega, by go_num, by obtain ⟨d, e⟩ := HW2.out; exact ⟨_, by rw [e]; simp only [World.drewN_drewN]; rfl⟩⟩
                  case measure => simp [intOf]; omega
          · obtain rfl : t = lk.length := by omega
            have hcond : ¬ ((lk.length : Int) < (lk.length : Int)) := by omega
            clear hw
            go_wp2_with fail
            go_roundw
            case rel => exact ⟨k + 1, by omega, by go_num, HW2.out⟩
            case measure => simp [intOf]; omega
      · obtain rfl : k = p.length := by omega
        have hcond : ¬ ((p.length : Int) < (p.length : Int)) := by omega
        have V20 := (HF.out _ M20.out).2.2.2.1
        have hV : CodeV wr ao0 len0 := by obtain ⟨n, rfl⟩ := HW.out; exact V20
        have hMW : Below w4.heap.size w4 wr := by obtain ⟨n, rfl⟩ := HW.out; exact below_dr M20.out n
        clear V20
        go_wp2_with fail
        refine (pointR ao0 len0 cap0 p.length 9 _ hV hn (by omega) (by omega) (by omega)).mono ?_
        rintro e w21 ⟨gx, cx, x, rfl, hxl, hx7, hrow, L21⟩
        have M21 := chain hMW L21
        have hok : okB x = true := okB_mk (by omega) (by omega) (fun i hi => by
          have := hx7 (nth x i) (by unfold nth; rw [List.getD_eq_getElem?_getD, List.getElem?_eq_getElem hi]; exact List.getElem_mem hi)
          omega)
        have HT := hidP (HTHIRD.out x hok hxl)
        have HPX := hidP (show PtIn w21 (some ⟨gx, 0, none⟩) cx x from ⟨hrow.view, by omega, hrow.room⟩)
        clear hrow hx7 hok L21 hMW hV hxl
        go_wp2_with fail
        refine (qSteps HPX.out (HF.out _ M21).1.1).mono ?_
        rintro e w22 ⟨rfl, L22⟩
        have M22 := chain M21 L22
        have HPX2 := hidP (HPX.out.next L22)
        clear L22 M21 HPX
        go_wp2_with fail
        refine (qSum HS.out HPX2.out (HF.out _ M22).1.2.2 (HF.out _ M22).1.2.1).mono ?_
        rintro e w23 ⟨rfl, L23⟩
        have hB := (HF.out _ (chain M22 L23)).2.2.2.2
        have HB := hidP hB
        have t1 := HT.out
        have b1 := stepsV_bd x p
        have b2 : -1 ≤ sumLV x C l ∧ sumLV x C l ≤ 100000 := stepsV_bd x _
        clear L23 M22 HPX2 hB
        generalize stepsV x p = far at *
        generalize sumLV x C l = told at *
        have hw0 : IntKind.i64.wrap (told - far) = told - far := IntWalk.i64_in _ ⟨by omega, by omega⟩
        have hw1 : IntKind.i64.wrap (far - told) = far - told := IntWalk.i64_in _ ⟨by omega, by omega⟩
        have hd1 : decide (told - far ≤ off) = true := by simp; omega
        have hd2 : decide (far - told ≤ off) = true := by simp; omega
        go_wp2_with fail
        go_ret
        exact ⟨rfl, HB.out⟩

end Go.Proofs.Ythkaiienfkihmaa
