/-
  The given l11Radius and Radius: the greatest, over all marks, of the least distance to those with these numbers.
-/
import Derived.Test.YtpcclaehcmnngaaZSpec
namespace Go.Proofs.Ytpcclaehcmnngaa
open Go Go.RowKit

def zNearF (ms : List Mk) (kd : Int) (ids : List Int) (i : Nat) : Int := zNearI ms kd (mat ms i) ids
theorem zNearF_V (ms : List Mk) (kd : Int) (ids : List Int) (i : Nat) : zNearF ms kd ids i = zNearI ms kd (mat ms i) ids := rfl
def zRadI (ms : List Mk) (kd : Int) (ids : List Int) : Int := maxTo (zNearF ms kd ids) ms.length
theorem zRadI_bd (ms : List Mk) (kd : Int) (ids : List Int) (n : Nat) : 0 ≤ maxTo (zNearF ms kd ids) n ∧ maxTo (zNearF ms kd ids) n ≤ 16000000 :=
  maxTo_le _ _ (by omega) (fun i => (zNearI_bd _ _ _ _).2) n
theorem maxV_near (ms : List Mk) (kd : Int) (ids : List Int) (k : Nat) : maxTo (zNearF ms kd ids) (k + 1) = maxV (maxTo (zNearF ms kd ids) k) (zNearF ms kd ids k) := rfl
theorem zRadI_eq {ms : List Mk} (h : marksB ms = true) (kd : Int) (hk : kindB kd = true) (ids : List Int) (hf : ∀ id ∈ ids, 0 ≤ zFind ms id) : zRadI ms kd ids = zRad (zD ms kd) ms.length (ids.map (zIdx ms)) :=
  maxTo_congr _ _ _ (fun _ hi => zNearI_eq h kd hk hi ids hf)

set_option maxHeartbeats 1000000 in
theorem sRad11 (ao ai : Option Addr) (cap ci : Nat) (ms : List Mk) (ids : List Int) (kd : Int) (w : World) (hv : MView w ao ms) (hi : View w ai ids) (hsm : MSmall ms) (hil : ids.length ≤ 1048576) (hf : ∀ id ∈ ids, 0 ≤ zFind ms id) :
    Calls Try.prog 50 #[.slice ao ms.length cap, .slice ai ids.length ci, .int .i64 kd] w fun e w' => e = .returned (.int .i64 (zRadI ms kd ids)) ∧ ∃ n, w' = w.drewN n := by
  have hn := hsm.1
  have HSM := hidP hsm
  have HF := hidP hf
  clear hf hsm
  have HV : Hid (zRadI ms kd ids = maxTo (zNearF ms kd ids) ms.length) := rfl
  go_enter Try.func50, Try.ntmps50
  go_wp2_with fail
  go_loopw [7, 8] (fun s i wr => ∃ k : Nat, k ≤ ms.length ∧ i = .int .i64 k ∧ s = .int .i64 (maxTo (zNearF ms kd ids) k) ∧ ∃ n, wr = w.drewN n) (fun _ i _ => ms.length - (intOf i).toNat)
  case atStart => exact ⟨0, Nat.zero_le _, rfl, rfl, 0, rfl⟩
  case round =>
    obtain ⟨k, hk, rfl, rfl, hw⟩ := hrel
    have HW : Hid (∃ n, wr = w.drewN n) := hw
    clear hw
    by_cases hlt : k < ms.length
    · have hvw : MView wr ao ms := by obtain ⟨n, rfl⟩ := HW.out; exact hv
      have hiw : View wr ai ids := by obtain ⟨n, rfl⟩ := HW.out; exact hi
      obtain ⟨b, off, rfl, hb, hs⟩ := MSeg.seg hvw (by omega)
      obtain ⟨-, ae, ce, hc1, hve⟩ := hs.at hlt
      have HN := hidP (maxV_near ms kd ids k)
      have hbd := zNearI_bd ms kd (mat ms k) ids
      have hmx := zRadI_bd ms kd ids k
      have HCM := hidP (sNear11 _ ae ai cap ce ci ms (mat ms k) ids kd wr hvw hve hiw HSM.out (HSM.out.2 k) hil HF.out)
      rw [← zNearF_V] at HCM hbd
      generalize zNearF ms kd ids k = y at *
      clear hvw hiw hve hs hv hi
      go_wp2_with fail
      refine HCM.out.mono ?_
      rintro e w2 ⟨rfl, n2, hw2⟩
      have HW2 : Hid (∃ n, w2 = w.drewN n) := by obtain ⟨n, hn⟩ := HW.out; exact ⟨n + n2, by rw [hw2, hn]; simp⟩
      clear hw2 HCM
      go_wp2_with fail
      refine (sMax _ _ _).mono ?_
      rintro e w3 ⟨rfl, hw3⟩
      subst w3
      go_wp2_with fail
      go_roundw
      case rel => exact ⟨k + 1, by omega, by go_num, by rw [HN.out], HW2.out⟩
      case measure => simp [intOf]; omega
    · go_wp2_with fail
      go_ret
      obtain rfl : k = ms.length := by omega
      exact ⟨ret_int HV.out.symm, HW.out⟩

theorem radI_bad {ms : List Mk} {ids : List Int} {kd : Int} (h : radB ms ids kd = false) : radI ms ids kd = -1 := by rw [radI, h]; rfl
theorem radB_iff (ms : List Mk) (ids : List Int) (kd : Int) : radB ms ids kd = true ↔ marksB ms = true ∧ ids.length ≠ 0 ∧ kindB kd = true ∧ ∀ id ∈ ids, 0 ≤ zFind ms id := by
  simp [radB, and_assoc]
theorem radB_false {ms : List Mk} {ids : List Int} {kd : Int} (h : ¬ (marksB ms = true ∧ ids.length ≠ 0 ∧ kindB kd = true ∧ ∀ id ∈ ids, 0 ≤ zFind ms id)) : radB ms ids kd = false := by
  rcases hb : radB ms ids kd with _ | _
  · rfl
  · exact absurd ((radB_iff ms ids kd).1 hb) h
theorem radI_good {ms : List Mk} {ids : List Int} {kd : Int} (hm : marksB ms = true) (h0 : ids.length ≠ 0) (hk : kindB kd = true) (hf : ∀ id ∈ ids, 0 ≤ zFind ms id) : radI ms ids kd = zRadI ms kd ids := by
  rw [radI, if_pos ((radB_iff ms ids kd).2 ⟨hm, h0, hk, hf⟩), zRadI_eq hm kd hk ids hf]

set_option maxHeartbeats 1000000 in
theorem sRadius (ao ai : Option Addr) (cap ci : Nat) (ms : List Mk) (ids : List Int) (kd : Int) (w : World) (hv : MView w ao ms) (hi : View w ai ids) (hsm : MSmall ms) (hil : ids.length ≤ 1048576) :
    Calls Try.prog 16 #[.slice ao ms.length cap, .slice ai ids.length ci, .int .i64 kd] w fun e w' => e = .returned (.int .i64 (radI ms ids kd)) ∧ ∃ n, w' = w.drewN n := by
  have HC := hidP (sMarks ao cap ms w hv hsm)
  have HK := fun w => hidP (sKind kd w)
  rcases hm : marksB ms with _ | _
  · have HV := hidP (radI_bad (radB_false (ms := ms) (ids := ids) (kd := kd) (fun h => by rw [hm] at h; exact absurd h.1 (by simp))))
    rw [hm] at HC
    go_enter Try.func16, Try.ntmps16
    go_wp2_with fail
    refine HC.out.mono ?_
    rintro e w1 ⟨rfl, n1, rfl⟩
    go_wp2_with fail
    go_ret
    exact ⟨ret_int HV.out.symm, n1, rfl⟩
  · rw [hm] at HC
    by_cases h0 : ids.length = 0
    · have HV := hidP (radI_bad (radB_false (ms := ms) (ids := ids) (kd := kd) (fun h => absurd h0 h.2.1)))
      have hb0 : ((ids.length : Int) == 0) = true := by simp; simpa using h0
      clear h0
      go_enter Try.func16, Try.ntmps16
      go_wp2_with fail
      refine HC.out.mono ?_
      rintro e w1 ⟨rfl, n1, rfl⟩
      go_wp2_with fail
      go_ret
      exact ⟨ret_int HV.out.symm, n1, rfl⟩
    · have hb0 : ((ids.length : Int) == 0) = false := by simp; simpa using h0
      rcases hkd : kindB kd with _ | _
      · have HV := hidP (radI_bad (radB_false (ms := ms) (ids := ids) (kd := kd) (fun h => by rw [hkd] at h; exact absurd h.2.2.1 (by simp))))
        rw [hkd] at HK
        clear h0
        go_enter Try.func16, Try.ntmps16
        go_wp2_with fail
        refine HC.out.mono ?_
        rintro e w1 ⟨rfl, n1, rfl⟩
        go_wp2_with fail
        refine (HK _).out.mono ?_
        rintro e w2 ⟨rfl, rfl⟩
        go_wp2_with fail
        go_ret
        exact ⟨ret_int HV.out.symm, n1, rfl⟩
      · rw [hkd] at HK
        have H0 := hidP h0
        have hn := hsm.1
        clear h0
        go_enter Try.func16, Try.ntmps16
        go_wp2_with fail
        refine HC.out.mono ?_
        rintro e w1 ⟨rfl, n1, rfl⟩
        go_wp2_with fail
        refine (HK _).out.mono ?_
        rintro e w2 ⟨rfl, rfl⟩
        clear HK HC
        have HM := hidP hm
        have HKD := hidP hkd
        clear hm hkd
        go_wp2_with fail
        have hvw := hv.drewN n1
        have hiw := hi.drewN n1
        have HW : Hid (∃ n, w.drewN n1 = w.drewN n) := ⟨n1, rfl⟩
        generalize w.drewN n1 = W at *
        go_loop [7] (fun i => ∃ k : Nat, k ≤ ids.length ∧ i = .int .i64 k ∧ (∀ j, j < k → 0 ≤ zFind ms (nth ids j))) (fun i => ids.length - (intOf i).toNat)
        case atStart => exact ⟨0, Nat.zero_le _, rfl, fun j hj => by omega⟩
        case round =>
          obtain ⟨k, hk, rfl, hall⟩ := hrel
          have HA := hidP hall
          clear hall
          by_cases hlt : k < ids.length
          · obtain ⟨bi, oi, rfl, hbi, hsi⟩ : ∃ b off, ai = some ⟨b, off, none⟩ ∧ b < W.heap.size ∧ Seg W b off ids := by
              rcases hiw with h | h
              · subst h; simp at hlt
              · exact h
            have hci := hsi k hlt
            have hmem : nth ids k ∈ ids := by
              have e : nth ids k = ids[k] := by simp [nth, List.getD, hlt]
              rw [e]; exact List.getElem_mem hlt
            have HC1 := hidP (sFind ao cap ms (nth ids k) W hvw hn)
            have hi0 : (0 : Int) ≤ (k : Int) := Int.natCast_nonneg _
            have hi1 : (k : Int) < (ids.length : Int) := by omega
            clear hsi
            by_cases hng : zFind ms (nth ids k) < 0
            · have HV := hidP (radI_bad (radB_false (ms := ms) (ids := ids) (kd := kd) (fun h => by have := h.2.2.2 _ hmem; omega)))
              clear hmem
              go_wp2_with fail
              refine HC1.out.mono ?_
              rintro e w1 ⟨rfl, hw1⟩
              subst w1
              go_wp2_with fail
              go_ret
              exact ⟨ret_int HV.out.symm, HW.out⟩
            · have HG := hidP (Int.not_lt.1 hng)
              clear hmem
              go_wp2_with fail
              refine HC1.out.mono ?_
              rintro e w1 ⟨rfl, hw1⟩
              subst w1
              go_wp2_with fail
              go_round
              case rel => exact ⟨k + 1, by omega, by go_num, fun j hj => by
                rcases Nat.lt_or_ge j k with h | h
                · exact HA.out j h
                · rw [show j = k by omega]; exact HG.out⟩
              case measure => simp [intOf]; omega
          · have HF : Hid (∀ id ∈ ids, 0 ≤ zFind ms id) := fun id hid => by
              obtain ⟨j, hj, rfl⟩ := List.getElem_of_mem hid
              have := HA.out j (by omega)
              simpa [nth, List.getD, hj] using this
            have HV := hidP (radI_good HM.out H0.out HKD.out HF.out)
            have HCR := hidP (sRad11 ao ai cap ci ms ids kd W hvw hiw hsm hil HF.out)
            go_wp2_with fail
            refine HCR.out.mono ?_
            rintro e w3 ⟨rfl, n3, rfl⟩
            go_wp2_with fail
            go_ret
            refine ⟨ret_int HV.out.symm, ?_⟩
            obtain ⟨n, hn⟩ := HW.out
            exact ⟨n + n3, by rw [hn]; simp⟩

end Go.Proofs.Ytpcclaehcmnngaa
