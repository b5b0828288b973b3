/-
  The program's Coded, Decoded, Off and Sum.
-/
import Derived.Test.YthkaiienfkihmaaLvImp2
import Derived.Test.YthkaiienfkihmaaImpl
namespace Go.Proofs.Ythkaiienfkihmaa
open Go Go.RowKit

set_option maxHeartbeats 1000000 in
theorem iCodFn (B b off cap k : Nat) (x : Int) (ls : List (List Int)) (w : World) (hB : w.cell? ⟨B, 0, none⟩ = some (.slice (some ⟨b, off, none⟩) ls.length cap)) (hs : CSeg w b off ls) (hk : k < ls.length) (hok : lvOk (cn ls k) = true) (h1 : -1000 ≤ x) (h2 : x ≤ 1000) :
    Calls Try.prog 40 #[.int .i64 k, .int .i64 x, .pointer (some ⟨B, 0, none⟩)] w fun e w' => e = .returned (.int .i64 (codI x (cn ls k) : Nat)) ∧ Below w.heap.size w w' := by
  obtain ⟨a, c, hc, hv⟩ := hs k hk
  have hl := (lvOk_iff _).1 hok
  obtain ⟨b2, o2, rfl, hbs, hseg⟩ : ∃ b off, a = some ⟨b, off, none⟩ ∧ b < w.heap.size ∧ Seg w b off (cn ls k) := by
    rcases hv with h | h
    · rw [h] at hl; simp at hl
    · exact h
  have HH := hidP (fun (W : World) (L : Below w.heap.size w W) => iNearS b2 o2 c (cn ls k) x W (Nat.lt_of_lt_of_le hbs L.size) (hseg.below hbs L) hok h1 h2)
  clear hs hv hseg hok hl
  go_enter Try.func40, Try.ntmps40
  go_wp2_with fail
  refine (iScaleOf (some ⟨b2, o2, none⟩) (cn ls k).length c _).mono ?_
  rintro e w1 ⟨rfl, L1⟩
  have HC := hidP (HH.out w1 L1)
  have HL := hidP L1
  clear L1
  go_wp2_with fail
  refine HC.out.mono ?_
  rintro e w2 ⟨rfl, L2⟩
  go_wp2_with fail
  go_ret
  exact ⟨rfl, chain HL.out L2⟩

set_option maxHeartbeats 1000000 in
theorem iDecFn (B b off cap k m : Nat) (ls : List (List Int)) (w : World) (hB : w.cell? ⟨B, 0, none⟩ = some (.slice (some ⟨b, off, none⟩) ls.length cap)) (hs : CSeg w b off ls) (hk : k < ls.length) (hm : m < (cn ls k).length) :
    Calls Try.prog 49 #[.int .i64 k, .int .i64 m, .pointer (some ⟨B, 0, none⟩)] w fun e w' => e = .returned (.int .i64 (nth (cn ls k) m)) ∧ w' = w := by
  obtain ⟨a, c, hc, hv⟩ := hs k hk
  obtain ⟨b2, o2, rfl, hbs, hseg⟩ : ∃ b off, a = some ⟨b, off, none⟩ ∧ b < w.heap.size ∧ Seg w b off (cn ls k) := by
    rcases hv with h | h
    · rw [h] at hm; simp at hm
    · exact h
  have hc2 := hseg m hm
  clear hs hv hseg
  go_enter Try.func49, Try.ntmps49
  go_wp2_with fail
  go_ret
  exact ⟨rfl, rfl⟩

theorem fld54 (v : Value) (w : World) : Sem.run Try.prog (Instr.field 54 (.agg #[v]) 0) w = .ok v w := by kernel_rfl

theorem decAt_has (c : List Int) (ls : List (List Int)) (i : Nat) : decAt c ls i = (decide (0 ≤ nth c i) && decide (nth c i < ((cn ls i).length : Int))) := by
  unfold decAt
  congr 1
  by_cases h : nth c i < ((cn ls i).length : Int)
  · simp [h]; omega
  · simp [h]; omega

set_option maxHeartbeats 1000000 in
theorem iNamed13 (b off cap b1 off1 cap1 : Nat) (xs : List Int) (ls : List (List Int)) (w : World) (hbs : b < w.heap.size) (hs : Seg w b off xs) (hbs1 : b1 < w.heap.size) (hs1 : CSeg w b1 off1 ls) (hl : xs.length = ls.length) (h4 : ls.length ≤ 4) :
    Calls Try.prog 48 #[.slice (some ⟨b, off, none⟩) xs.length cap, .slice (some ⟨b1, off1, none⟩) ls.length cap1] w fun e w' => e = .returned (.bool (decTo xs ls ls.length)) ∧ Below w.heap.size w w' := by
  have HS := hidP hs
  have HS1 := hidP hs1
  have HL := hidP hl
  clear hs hs1 hl
  rw [HL.out]
  go_enter Try.func48, Try.ntmps48
  go_wp2_with fail
  go_loopw [9] (fun i wr => ∃ k : Nat, k ≤ ls.length ∧ i = .int .i64 k ∧ (∀ j, j < k → decAt xs ls j = true) ∧ Below w.heap.size w wr) (fun i _ => ls.length - (intOf i).toNat)
  case atStart => exact ⟨0, Nat.zero_le _, rfl, fun j hj => by omega, Below.refl _ _⟩
  case round =>
    obtain ⟨k, hk, rfl, hall, L⟩ := hrel
    have HA := hidP hall
    clear hall
    by_cases hlt : k < ls.length
    · have hc := (L.cell (p := ⟨b, off + k, none⟩) hbs).trans (HS.out k (by rw [HL.out]; exact hlt))
      obtain ⟨a, c, hc0, -⟩ := HS1.out k hlt
      have hc' := (L.cell (p := ⟨b1, off1 + k, none⟩) hbs1).trans hc0
      have HLk := hidP L
      clear hc0 L
      go_wp2_with fail
      refine (iScaleOf a (cn ls k).length c _).mono ?_
      rintro e w1 ⟨rfl, L1⟩
      have HL1 := hidP (chain HLk.out L1)
      clear L1
      have hfl := fld54 (.slice a (cn ls k).length c) w1
      have HC := hidP (pHas a (cn ls k).length c (nth xs k) w1)
      rw [← decAt_has] at HC
      rcases hok : decAt xs ls k with _ | _
      · rw [hok] at HC
        go_wp2_with fail
        refine HC.out.mono ?_
        rintro e w2 ⟨rfl, rfl⟩
        go_wp2_with fail
        go_ret
        refine ⟨ret_bool (Eq.symm ?_), HL1.out⟩
        rcases e : decTo xs ls ls.length with _ | _
        · rfl
        · have := (decTo_iff xs ls _).1 e k hlt
          rw [hok] at this; cases this
      · rw [hok] at HC
        go_wp2_with fail
        refine HC.out.mono ?_
        rintro e w2 ⟨rfl, rfl⟩
        go_wp2_with fail
        go_roundw
        case rel => exact ⟨k + 1, by omega, by go_num, fun j hj => by
          rcases Nat.lt_or_ge j k with h | h
          · exact HA.out j h
          · obtain rfl : j = k := by omega
            exact hok, HL1.out⟩
        case measure => simp [intOf]; omega
    · go_wp2_with fail
      go_ret
      obtain rfl : k = ls.length := by omega
      exact ⟨ret_bool (Eq.symm ((decTo_iff xs ls _).2 HA.out)), L⟩

theorem cell_boxed {w w0 : World} {v : Value} {t : TypeId} (h : w.alloc (.cells #[v] t) = w0) : w0.cell? ⟨w.heap.size, 0, none⟩ = some v := by rw [← h]; simp [go_sem]
theorem cod_no {p : List Int} {ls : List (List Int)} (h : ¬ (levB ls = true ∧ okB p = true ∧ p.length = ls.length)) : codL p ls = [] := by
  refine codL_no ?_
  rcases e : codB p ls with _ | _
  · rfl
  · exact absurd ((codB_iff p ls).1 e) h
theorem dec_no {c : List Int} {ls : List (List Int)} (h : ¬ (levB ls = true ∧ c.length = ls.length ∧ decTo c ls ls.length = true)) : decL c ls = [] := by
  refine decL_no ?_
  rcases e : decB c ls with _ | _
  · rfl
  · obtain ⟨h1, h2, h3⟩ := (decB_iff c ls).1 e
    exact absurd ⟨h1, h2, (decTo_iff c ls _).2 h3⟩ h
theorem il_none (base : Nat) (w : World) : IOut base w (.slice none 0 0) [] := Or.inl ⟨rfl, rfl⟩

set_option maxRecDepth 100000 in
set_option maxHeartbeats 2000000 in
theorem iCoded13 : ICoded := by
  intro a0 c0 xs a1 c1 ls w hv hn hcap hcv hsm hcap1
  obtain ⟨w0, hw0⟩ : ∃ w0, w.alloc (.cells #[.slice a1 ls.length c1] 25) = w0 := ⟨_, rfl⟩
  have L0 : Below w.heap.size w w0 := by rw [← hw0]; exact (Below.refl _ _).alloc (Nat.le_refl _) _
  have hsz : w.heap.size < w0.heap.size := by rw [← hw0]; simp
  have hcB := cell_boxed hw0
  have HOK := hidP (iOk a0 c0 xs w0 (View.next hv L0) hn)
  have HLV := hidP (iLevels13 a1 c1 ls w0 (hcv.next L0) hsm hcap1)
  have HL0 := hidP L0
  have hl1 := hsm.1
  rcases hok : okB xs with _ | _
  · have HE := hidP (cod_no (p := xs) (ls := ls) (by rw [hok]; simp))
    rw [hok] at HOK
    rw [HE.out]
    clear hv hcv hsm HLV L0
    go_enter Try.func11, Try.ntmps11
    go_wp2_with fail
    refine HOK.out.mono ?_
    rintro e w1 ⟨rfl, rfl⟩
    go_wp2_with fail
    go_ret
    exact ⟨none, 0, rfl, il_none _ _, HL0.out⟩
  rw [hok] at HOK
  by_cases hl : xs.length = ls.length
  · rcases hlv : levB ls with _ | _
    · have HE := hidP (cod_no (p := xs) (ls := ls) (by rw [hlv]; simp))
      rw [hlv] at HLV
      rw [HE.out]
      have hlb : ((xs.length : Int) != (ls.length : Int)) = false := by simp [hl]
      clear hv hcv hsm L0 hl
      go_enter Try.func11, Try.ntmps11
      go_wp2_with fail
      refine HOK.out.mono ?_
      rintro e w1 ⟨rfl, rfl⟩
      go_wp2_with fail
      refine HLV.out.mono ?_
      rintro e w2 ⟨rfl, L2⟩
      go_wp2_with fail
      go_ret
      exact ⟨none, 0, rfl, il_none _ _, chain HL0.out L2⟩
    · rw [hlv] at HLV
      have hcb : codB xs ls = true := (codB_iff _ _).2 ⟨hlv, hok, hl⟩
      have HE : Hid (codL xs ls = tabL (codF xs ls) xs.length) := by show _ = _; rw [codL, if_pos hcb, hl]
      rw [HE.out, tabL_length]
      have h4 := okB_len hok
      obtain ⟨b, off, rfl, hbs, hseg⟩ : ∃ b off, a0 = some ⟨b, off, none⟩ ∧ b < w.heap.size ∧ Seg w b off xs := by
        rcases hv with rfl | h
        · simp at h4
        · exact h
      obtain ⟨b1, off1, rfl, hbs1, hseg1⟩ := hcv.seg (by omega)
      have HC := hidP (fun (W : World) (L : Below w0.heap.size w0 W) => pEachCod (codF xs ls) w.heap.size b off c0 xs W (hseg.below hbs (chain L0 L)) (Nat.lt_of_lt_of_le hbs (chain L0 L).size) h4.2 (fun W' k hk L' => by
        have L2 := chain L L'
        have L3 := chain L0 L2
        exact iCodFn w.heap.size b1 off1 c1 k (nth xs k) ls W' ((L2.cell (p := ⟨w.heap.size, 0, none⟩) hsz).trans hcB) (hseg1.below hbs1 (Nat.le_refl _) L3) (by omega) (((levB_iff ls).1 hlv).2.2 k (by omega)) (okB_at hok k).1 (okB_at hok k).2))
      clear hseg hseg1 hv hcv hsm L0 hcb
      have hlb : ((xs.length : Int) != (ls.length : Int)) = false := by simp [hl]
      have HEQ := hidP hl
      clear hl
      go_enter Try.func11, Try.ntmps11
      go_wp2_with fail
      refine HOK.out.mono ?_
      rintro e w1 ⟨rfl, rfl⟩
      go_wp2_with fail
      refine HLV.out.mono ?_
      rintro e w2 ⟨rfl, L2⟩
      have HC2 := hidP (HC.out w2 L2)
      have HL2 := hidP (chain HL0.out L2)
      clear L2
      go_wp2_with fail
      refine HC2.out.mono ?_
      rintro e w3 ⟨rfl, o3, L3⟩
      have HF := hidP (And.intro o3 (chain HL2.out L3))
      clear o3 L3
      go_wp2_with fail
      go_ret
      refine ⟨_, _, rfl, ?_, HF.out.2⟩
      have h := Own.out (base := w.heap.size) HF.out.1 HL2.out.size (by rw [tabL_length]; unfold maxLen; omega)
      rw [tabL_length] at h
      exact h
  · have HE := hidP (cod_no (p := xs) (ls := ls) (fun h => hl h.2.2))
    rw [HE.out]
    have hlb : ((xs.length : Int) != (ls.length : Int)) = true := by simp; omega
    clear hv hcv hsm HLV L0
    go_enter Try.func11, Try.ntmps11
    go_wp2_with fail
    refine HOK.out.mono ?_
    rintro e w1 ⟨rfl, rfl⟩
    go_wp2_with fail
    go_ret
    exact ⟨none, 0, rfl, il_none _ _, HL0.out⟩

set_option maxRecDepth 100000 in
set_option maxHeartbeats 2000000 in
theorem iDecoded13 : IDecoded := by
  intro a0 c0 xs a1 c1 ls w hv hn hcap hcv hsm hcap1
  obtain ⟨w0, hw0⟩ : ∃ w0, w.alloc (.cells #[.slice a1 ls.length c1] 25) = w0 := ⟨_, rfl⟩
  have L0 : Below w.heap.size w w0 := by rw [← hw0]; exact (Below.refl _ _).alloc (Nat.le_refl _) _
  have hsz : w.heap.size < w0.heap.size := by rw [← hw0]; simp
  have hcB := cell_boxed hw0
  have HLV := hidP (iLevels13 a1 c1 ls w0 (hcv.next L0) hsm hcap1)
  have HL0 := hidP L0
  have hl1 := hsm.1
  by_cases hl : xs.length = ls.length
  · have hlb : ((xs.length : Int) != (ls.length : Int)) = false := by simp [hl]
    rcases hlv : levB ls with _ | _
    · have HE := hidP (dec_no (c := xs) (ls := ls) (by rw [hlv]; simp))
      rw [hlv] at HLV
      rw [HE.out]
      clear hv hcv hsm L0 hl
      go_enter Try.func16, Try.ntmps16
      go_wp2_with fail
      refine HLV.out.mono ?_
      rintro e w2 ⟨rfl, L2⟩
      go_wp2_with fail
      go_ret
      exact ⟨none, 0, rfl, il_none _ _, chain HL0.out L2⟩
    · rw [hlv] at HLV
      obtain ⟨g1, g4, gat⟩ := (levB_iff ls).1 hlv
      obtain ⟨b, off, rfl, hbs, hseg⟩ : ∃ b off, a0 = some ⟨b, off, none⟩ ∧ b < w.heap.size ∧ Seg w b off xs := by
        rcases hv with rfl | h
        · simp at hl; omega
        · exact h
      obtain ⟨b1, off1, rfl, hbs1, hseg1⟩ := hcv.seg (by omega)
      have HN := hidP (fun (W : World) (L : Below w0.heap.size w0 W) => iNamed13 b off c0 b1 off1 c1 xs ls W (Nat.lt_of_lt_of_le hbs (chain L0 L).size) (hseg.below hbs (chain L0 L)) (Nat.lt_of_lt_of_le hbs1 (chain L0 L).size) (hseg1.below hbs1 (Nat.le_refl _) (chain L0 L)) hl g4)
      rcases hdt : decTo xs ls ls.length with _ | _
      · have HE := hidP (dec_no (c := xs) (ls := ls) (by rw [hdt]; simp))
        rw [hdt] at HN
        rw [HE.out]
        clear hv hcv hsm L0 hl hseg hseg1 g1 g4 gat
        go_enter Try.func16, Try.ntmps16
        go_wp2_with fail
        refine HLV.out.mono ?_
        rintro e w2 ⟨rfl, L2⟩
        have HN2 := hidP (HN.out w2 L2)
        have hc2 := (L2.cell (p := ⟨w.heap.size, 0, none⟩) hsz).trans hcB
        have HL2 := hidP (chain HL0.out L2)
        clear L2
        go_wp2_with fail
        refine HN2.out.mono ?_
        rintro e w3 ⟨rfl, L3⟩
        go_wp2_with fail
        go_ret
        exact ⟨none, 0, rfl, il_none _ _, chain HL2.out L3⟩
      · have hdb : decB xs ls = true := (decB_iff _ _).2 ⟨hlv, hl, (decTo_iff _ _ _).1 hdt⟩
        have hat := (decTo_iff _ _ _).1 hdt
        have HE : Hid (decL xs ls = tabL (decF xs ls) xs.length) := by show _ = _; rw [decL, if_pos hdb, hl]
        rw [hdt] at HN
        rw [HE.out, tabL_length]
        have HC := hidP (fun (W : World) (L : Below w0.heap.size w0 W) => pEachDec (decF xs ls) w.heap.size b off c0 xs W (hseg.below hbs (chain L0 L)) (Nat.lt_of_lt_of_le hbs (chain L0 L).size) (by omega) (fun W' k hk L' => by
          have L2 := chain L L'
          have L3 := chain L0 L2
          have hd := (decAt_iff _ _ _).1 (hat k (by omega))
          have e : nth xs k = ((nth xs k).toNat : Int) := by omega
          have h := iDecFn w.heap.size b1 off1 c1 k (nth xs k).toNat ls W' ((L2.cell (p := ⟨w.heap.size, 0, none⟩) hsz).trans hcB) (hseg1.below hbs1 (Nat.le_refl _) L3) (by omega) (by have := ((lvOk_iff _).1 (gat k (by omega))).1; omega)
          rw [← e] at h
          refine h.mono ?_
          rintro e w' ⟨rfl, rfl⟩
          exact ⟨rfl, Below.refl _ _⟩))
        clear hseg hseg1 hv hcv hsm L0 hdb hat gat
        have HX : Hid (xs.length ≤ 4) := by show _ ≤ _; omega
        clear hl
        go_enter Try.func16, Try.ntmps16
        go_wp2_with fail
        refine HLV.out.mono ?_
        rintro e w2 ⟨rfl, L2⟩
        have HN2 := hidP (HN.out w2 L2)
        have hc2 := (L2.cell (p := ⟨w.heap.size, 0, none⟩) hsz).trans hcB
        have HL2 := hidP L2
        clear L2
        go_wp2_with fail
        refine HN2.out.mono ?_
        rintro e w3 ⟨rfl, L3⟩
        have HC3 := hidP (HC.out w3 (chain HL2.out L3))
        have HL3 := hidP (chain HL0.out (chain HL2.out L3))
        clear L3
        go_wp2_with fail
        refine HC3.out.mono ?_
        rintro e w4 ⟨rfl, o4, L4⟩
        have HF := hidP (And.intro o4 (chain HL3.out L4))
        clear o4 L4
        go_wp2_with fail
        go_ret
        refine ⟨_, _, rfl, ?_, HF.out.2⟩
        have h := Own.out (base := w.heap.size) HF.out.1 HL3.out.size (by rw [tabL_length]; have := HX.out; unfold maxLen; omega)
        rw [tabL_length] at h
        exact h
  · have HE := hidP (dec_no (c := xs) (ls := ls) (fun h => hl h.2.1))
    rw [HE.out]
    have hlb : ((xs.length : Int) != (ls.length : Int)) = true := by simp; omega
    clear hv hcv hsm HLV L0
    go_enter Try.func16, Try.ntmps16
    go_wp2_with fail
    go_ret
    exact ⟨none, 0, rfl, il_none _ _, HL0.out⟩

set_option maxHeartbeats 1000000 in
theorem iSum13 : ISumL := by
  intro a0 c0 xs a1 c1 cs a2 c2 ls w hv0 hn0 hcap0 hv1 hn1 hcap1 hcv hsm hcap2
  have HD := hidP (iDecoded13 a1 c1 cs a2 c2 ls w hv1 hn1 hcap1 hcv hsm hcap2)
  have HV := hidP hv0
  have H4 := hidP (decL_four cs ls)
  have HEQ : Hid (sumLV xs cs ls = stepsV xs (decL cs ls)) := rfl
  rw [HEQ.out]
  obtain ⟨D, hD⟩ : ∃ D, decL cs ls = D := ⟨_, rfl⟩
  rw [hD] at HD H4
  rw [hD]
  clear hv0 hv1 hcv hsm hD
  go_enter Try.func20, Try.ntmps20
  go_wp2_with fail
  refine HD.out.mono ?_
  rintro e w1 ⟨a, c, rfl, ho, L1⟩
  have HS := hidP (iSteps a0 a c0 c xs D w1 (View.next HV.out L1) ho.slice hn0 (by have := H4.out; omega))
  have HL1 := hidP L1
  clear L1 ho
  go_wp2_with fail
  refine HS.out.mono ?_
  rintro e w2 ⟨rfl, L2⟩
  go_wp2_with fail
  go_ret
  exact ⟨rfl, chain HL1.out L2⟩

theorem il_cap {base : Nat} {w : World} {a : Option Addr} {c : Nat} {xs : List Int} (h : IOut base w (.slice a xs.length c) xs) : xs.length ≤ c := by
  rcases h with ⟨_, rfl⟩ | ⟨g, c', e, hr⟩
  · exact Nat.zero_le _
  · injection e with e1 e2 e3
    obtain ⟨_, ⟨h1, _⟩ | ⟨g', c'', cur, h1, _, _, h2, _⟩⟩ := hr
    · cases h1
    · injection h1 with f1 f2 f3; omega

set_option maxHeartbeats 1000000 in
theorem iOff13 : IOff := by
  intro a0 c0 xs a1 c1 ls w hv hn hcap hcv hsm hcap1
  have HD := hidP (iCoded13 a0 c0 xs a1 c1 ls w hv hn hcap hcv hsm hcap1)
  have HV := hidP hv
  have HCV := hidP hcv
  have HSM := hidP hsm
  have H4 := hidP (codL_four xs ls)
  have HEQ : Hid (offV xs ls = sumLV xs (codL xs ls) ls) := rfl
  rw [HEQ.out]
  obtain ⟨D, hD⟩ : ∃ D, codL xs ls = D := ⟨_, rfl⟩
  rw [hD] at HD H4
  rw [hD]
  clear hv hcv hsm hD
  go_enter Try.func18, Try.ntmps18
  go_wp2_with fail
  refine HD.out.mono ?_
  rintro e w1 ⟨a, c, rfl, ho, L1⟩
  have HS := hidP (iSum13 a0 c0 xs a c D a1 c1 ls w1 (View.next HV.out L1) hn hcap ho.slice (by have := H4.out; omega) (il_cap ho) (HCV.out.next L1) HSM.out hcap1)
  have HL1 := hidP L1
  clear L1 ho
  go_wp2_with fail
  refine HS.out.mono ?_
  rintro e w2 ⟨rfl, L2⟩
  go_wp2_with fail
  go_ret
  exact ⟨rfl, chain HL1.out L2⟩

end Go.Proofs.Ythkaiienfkihmaa
