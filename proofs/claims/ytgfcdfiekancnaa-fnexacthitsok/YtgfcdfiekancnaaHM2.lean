/-
  container/heap's down and Init over the program's hits.
-/
import Derived.Test.YtgfcdfiekancnaaHM1
namespace Go.Proofs.Ytgfcdfiekancnaa
open Go Go.RowKit

/-- What a walk down leaves: the same hits, those from n on where they were, a heap from s on; in the row's block alone. -/
def HKept (base : Nat) (w w' : World) (p g c : Nat) (l l' : List Ht) (n : Nat) : Prop := HAt base w' p g c l' ∧ w.grownBy w' (some g) ∧ l'.Perm l ∧ ∀ k, n ≤ k → hnth l' k = hnth l k
theorem HKept.below {base : Nat} {w w1 w2 : World} {p g c n : Nat} {l l' : List Ht} (h : HKept base w w1 p g c l l' n) (hb : Below w1.heap.size w1 w2) : HKept base w w2 p g c l l' n :=
  ⟨h.1.below hb, grown_trans h.2.1 ⟨hb.os, hb.tape, hb.output, hb.size, fun i hi _ => hb.block i hi⟩, h.2.2⟩
theorem swapL_far (l : List Ht) (i j k : Nat) (hi : i < l.length) (hj : j < l.length) (h1 : k ≠ i) (h2 : k ≠ j) : hnth (swapL l i j) k = hnth l k := by
  rcases Nat.lt_or_ge k l.length with h | h
  · rw [swapL_at l i j k hi hj h, if_neg h2, if_neg h1]
  · simp [hnth, List.getD, swapL, h]
theorem HKept.swap {base : Nat} {w w1 w2 : World} {p g c n i j : Nat} {l l' : List Ht} (h : HKept base w w1 p g c l l' n) (hr : HRow base w2 g c (swapL l' i j)) (hg : w1.grownBy w2 (some g)) (hi : i < n) (hj : j < n) (hn : n ≤ l'.length) : HKept base w w2 p g c l (swapL l' i j) n :=
  ⟨h.1.put hr (swapL_length _ _ _) hg, grown_trans h.2.1 hg, (swapL_perm _ _ _ (by omega) (by omega)).trans h.2.2.1, fun k hk => by rw [swapL_far _ _ _ _ (by omega) (by omega) (by omega) (by omega)]; exact h.2.2.2 k hk⟩

set_option maxRecDepth 100000 in
set_option maxHeartbeats 4000000 in
theorem iDown (base p g c s i0 n : Nat) (l : List Ht) (w : World) (h : HAt base w p g c l) (hn : n ≤ l.length) (hl : l.length ≤ 1048576) (hs : s ≤ i0) (hi : i0 ≤ n) (hd : DownS s l n i0) :
    Calls Try.prog 81 #[.iface 64 (.pointer (some ⟨p, 0, none⟩)), .int .i64 i0, .int .i64 n] w fun e w' => (∃ b, e = .returned (.bool b)) ∧ ∃ l', HKept base w w' p g c l l' n ∧ HeapS s l' n := by
  go_enter Try.func81, Try.ntmps81
  go_wp2
  go_loopw [7] (fun vi wr => ∃ (i : Nat) (l' : List Ht), vi = .int .i64 i ∧ s ≤ i ∧ i ≤ n ∧ HKept base w wr p g c l l' n ∧ DownS s l' n i) (fun vi _ => n - (intOf vi).toNat)
  case atStart => exact ⟨i0, l, rfl, hs, hi, ⟨h, grown_refl _ _, List.Perm.refl _, fun _ _ => rfl⟩, hd⟩
  case round =>
    obtain ⟨i, l', rfl, hsi, hin, hk, hdn⟩ := hrel
    have HK := hidP hk
    have HD := hidP hdn
    have HL := hidP (hk.2.2.1.length_eq)
    have hn' : n ≤ l'.length := by rw [HL.out]; exact hn
    have hl' : l'.length ≤ 1048576 := by rw [HL.out]; exact hl
    have hc := hk.1.cell
    have ML := method_val row_Less p _ _ _ wr hc
    have x1 : wrap64 (2 * (i : Int)) = 2 * (i : Int) := by unfold wrap64; omega
    have x2 : wrap64 (2 * (i : Int) + 1) = 2 * (i : Int) + 1 := by unfold wrap64; omega
    have x3 : wrap64 (2 * (i : Int) + 1 + 1) = 2 * (i : Int) + 1 + 1 := by unfold wrap64; omega
    have e1 : ((2 * i + 1 : Nat) : Int) = 2 * (i : Int) + 1 := by omega
    have e2 : ((2 * i + 2 : Nat) : Int) = 2 * (i : Int) + 1 + 1 := by omega
    by_cases hlt : 2 * i + 1 < n
    · have HC := hidP (iLess g 0 l'.length c (2 * i + 2) (2 * i + 1) l' wr hk.1.2.2.lt.2 hk.1.2.2.seg (Nat.le_refl _))
      rw [e1, e2] at HC
      clear hk hdn e1 e2
      by_cases hr : 2 * i + 2 < n
      · have d1 : ¬ (2 * (i : Int) + 1 ≥ (n : Int)) := by omega
        have d2 : (2 * (i : Int) + 1 + 1 < (n : Int)) := by omega
        go_wp2_with fail
        refine (HC.out (by omega) (by omega)).mono ?_
        rintro e w2 ⟨rfl, hb⟩
        have HK2 := hidP (HK.out.below hb)
        have ML2 := method_val row_Less p _ _ _ w2 HK2.out.1.cell
        clear hb hc ML
        rcases ha : aheadB (hnth l' (2 * i + 2)) (hnth l' (2 * i + 1)) with _ | _
        · have HM : Hid (∀ c, 0 < c → c < n → par c = i → leH (hnth l' (2 * i + 1)) (hnth l' c)) := fun c h0 h1 h2 => by
                    rcases kids c i h0 h2 with rfl | rfl
                    · exact leH_refl _
                    · exact (aheadB_false _ _).1 ha
          have HC2 := hidP (iLess g 0 l'.length c (2 * i + 1) i l' w2 HK2.out.1.2.2.lt.2 HK2.out.1.2.2.seg (Nat.le_refl _))
          have HS2 := hidP (fun w3 h3 => iSwap base g c i (2 * i + 1) l' w3 h3)
          rw [show ((2 * i + 1 : Nat) : Int) = 2 * (i : Int) + 1 by omega] at HC2 HS2
          go_wp2_with fail
          refine (HC2.out (by omega) (by omega)).mono ?_
          rintro e w3 ⟨rfl, hb3⟩
          have HK3 := hidP (HK2.out.below hb3)
          have MS3 := method_val row_Swap p _ _ _ w3 HK3.out.1.cell
          clear hb3 ML2
          rcases hf : aheadB (hnth l' (2 * i + 1)) (hnth l' i) with _ | _
          · go_wp2
            go_ret
            exact ⟨⟨_, rfl⟩, l', HK3.out, downS_done HD.out (fun c h0 h1 h2 => leH_trans ((aheadB_false _ _).1 hf) (HM.out c h0 h1 h2))⟩
          · go_wp2_with fail
            refine (HS2.out w3 HK3.out.1.2.2 (by omega) (by omega)).mono ?_
            rintro e w4 ⟨rfl, hr4, hg4⟩
            have HK4 := hidP (HK3.out.swap hr4 hg4 (by omega) (by omega) hn')
            have HD4 := hidP (downS_step HD.out hsi hn' (by omega) (by omega) (by unfold par; omega) HM.out hf)
            clear hr4 hg4 MS3
            go_wp2
            go_roundw
            case rel => exact ⟨2 * i + 1, _, by go_num, by omega, by omega, HK4.out, HD4.out⟩
            case measure => simp [intOf]; omega
        · have HM : Hid (∀ c, 0 < c → c < n → par c = i → leH (hnth l' (2 * i + 2)) (hnth l' c)) := fun c h0 h1 h2 => by
                    rcases kids c i h0 h2 with rfl | rfl
                    · exact leH_of_ahead ha
                    · exact leH_refl _
          have HC2 := hidP (iLess g 0 l'.length c (2 * i + 2) i l' w2 HK2.out.1.2.2.lt.2 HK2.out.1.2.2.seg (Nat.le_refl _))
          have HS2 := hidP (fun w3 h3 => iSwap base g c i (2 * i + 2) l' w3 h3)
          rw [show ((2 * i + 2 : Nat) : Int) = 2 * (i : Int) + 1 + 1 by omega] at HC2 HS2
          go_wp2_with fail
          refine (HC2.out (by omega) (by omega)).mono ?_
          rintro e w3 ⟨rfl, hb3⟩
          have HK3 := hidP (HK2.out.below hb3)
          have MS3 := method_val row_Swap p _ _ _ w3 HK3.out.1.cell
          clear hb3 ML2
          rcases hf : aheadB (hnth l' (2 * i + 2)) (hnth l' i) with _ | _
          · go_wp2
            go_ret
            exact ⟨⟨_, rfl⟩, l', HK3.out, downS_done HD.out (fun c h0 h1 h2 => leH_trans ((aheadB_false _ _).1 hf) (HM.out c h0 h1 h2))⟩
          · go_wp2_with fail
            refine (HS2.out w3 HK3.out.1.2.2 (by omega) (by omega)).mono ?_
            rintro e w4 ⟨rfl, hr4, hg4⟩
            have HK4 := hidP (HK3.out.swap hr4 hg4 (by omega) (by omega) hn')
            have HD4 := hidP (downS_step HD.out hsi hn' (by omega) (by omega) (by unfold par; omega) HM.out hf)
            clear hr4 hg4 MS3
            go_wp2
            go_roundw
            case rel => exact ⟨2 * i + 2, _, by go_num, by omega, by omega, HK4.out, HD4.out⟩
            case measure => simp [intOf]; omega
      · have d1 : ¬ (2 * (i : Int) + 1 ≥ (n : Int)) := by omega
        have d2 : ¬ (2 * (i : Int) + 1 + 1 < (n : Int)) := by omega
        obtain ⟨w2, hw2⟩ : ∃ w2, w2 = wr := ⟨_, rfl⟩
        have HK2 : Hid (HKept base w w2 p g c l l' n) := by rw [hw2]; exact HK
        have ML2 := method_val row_Less p _ _ _ w2 HK2.out.1.cell
        subst hw2
        clear hc ML HC
        have HM : Hid (∀ c, 0 < c → c < n → par c = i → leH (hnth l' (2 * i + 1)) (hnth l' c)) := fun c h0 h1 h2 => by
                rcases kids c i h0 h2 with rfl | rfl
                · exact leH_refl _
                · omega
        have HC2 := hidP (iLess g 0 l'.length c (2 * i + 1) i l' w2 HK2.out.1.2.2.lt.2 HK2.out.1.2.2.seg (Nat.le_refl _))
        have HS2 := hidP (fun w3 h3 => iSwap base g c i (2 * i + 1) l' w3 h3)
        rw [show ((2 * i + 1 : Nat) : Int) = 2 * (i : Int) + 1 by omega] at HC2 HS2
        go_wp2_with fail
        refine (HC2.out (by omega) (by omega)).mono ?_
        rintro e w3 ⟨rfl, hb3⟩
        have HK3 := hidP (HK2.out.below hb3)
        have MS3 := method_val row_Swap p _ _ _ w3 HK3.out.1.cell
        clear hb3 ML2
        rcases hf : aheadB (hnth l' (2 * i + 1)) (hnth l' i) with _ | _
        · go_wp2
          go_ret
          exact ⟨⟨_, rfl⟩, l', HK3.out, downS_done HD.out (fun c h0 h1 h2 => leH_trans ((aheadB_false _ _).1 hf) (HM.out c h0 h1 h2))⟩
        · go_wp2_with fail
          refine (HS2.out w3 HK3.out.1.2.2 (by omega) (by omega)).mono ?_
          rintro e w4 ⟨rfl, hr4, hg4⟩
          have HK4 := hidP (HK3.out.swap hr4 hg4 (by omega) (by omega) hn')
          have HD4 := hidP (downS_step HD.out hsi hn' (by omega) (by omega) (by unfold par; omega) HM.out hf)
          clear hr4 hg4 MS3
          go_wp2
          go_roundw
          case rel => exact ⟨2 * i + 1, _, by go_num, by omega, by omega, HK4.out, HD4.out⟩
          case measure => simp [intOf]; omega
    · have d1 : (2 * (i : Int) + 1 ≥ (n : Int)) := by omega
      clear hk hdn hc ML e1 e2
      go_wp2
      go_ret
      exact ⟨⟨_, rfl⟩, l', HK.out, downS_done HD.out (fun c h0 h1 h2 => by
        rcases kids c i h0 h2 with rfl | rfl
        · omega
        · omega)⟩

end Go.Proofs.Ytgfcdfiekancnaa
