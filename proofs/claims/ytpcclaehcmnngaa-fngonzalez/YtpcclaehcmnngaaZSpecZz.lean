/-
  The given l2Find, l11Near, l11Radius and Radius answer zFind, zNearI, the greatest of them, and radI.
  The given l11Radius and Radius: the greatest, over all marks, of the least distance to those with these numbers.
-/
import Derived.Test.YtpcclaehcmnngaaMathZz
import Derived.Test.YtpcclaehcmnngaaBetZz
namespace Go.Proofs.Ytpcclaehcmnngaa
open Go Go.RowKit

theorem zFindTo_stay {ms : List Mk} {id : Int} {m : Nat} (h : 0 ≤ zFindTo ms id m) : ∀ n, m ≤ n → zFindTo ms id n = zFindTo ms id m := by
  intro n hn
  induction n with
  | zero => rw [show m = 0 by omega]
  | succ n ih =>
    rcases Nat.lt_or_ge m (n + 1) with h1 | h1
    · have e := ih (by omega)
      simp only [zFindTo]
      rw [e, if_pos h]
    · rw [show m = n + 1 by omega]
theorem zFindTo_hit {ms : List Mk} {id : Int} {k : Nat} (hk : k < ms.length) (h : zFindTo ms id k = -1) (e : mid ms k = id) : zFind ms id = k := by
  have h1 : zFindTo ms id (k + 1) = k := by simp only [zFindTo]; rw [h, if_neg (by omega), if_pos e]
  have h2 := zFindTo_stay (ms := ms) (id := id) (m := k + 1) (by omega) ms.length (by omega)
  unfold zFind
  omega
theorem zFindTo_miss {ms : List Mk} {id : Int} {k : Nat} (h : zFindTo ms id k = -1) (e : ¬ mid ms k = id) : zFindTo ms id (k + 1) = -1 := by
  simp only [zFindTo]; rw [h, if_neg (by omega), if_neg e]

set_option maxHeartbeats 400000 in
theorem sFind (ao : Option Addr) (cap : Nat) (ms : List Mk) (id : Int) (w : World) (hv : MView w ao ms) (hn : ms.length ≤ 1048576) :
    Calls Try.prog 49 #[.slice ao ms.length cap, .int .i64 id] w fun e w' => e = .returned (.int .i64 (zFind ms id)) ∧ w' = w := by
  go_enter Try.func49, Try.ntmps49
  go_wp2_with fail
  go_loop [5] (fun i => ∃ k : Nat, k ≤ ms.length ∧ i = .int .i64 k ∧ zFindTo ms id k = -1) (fun i => ms.length - (intOf i).toNat)
  case atStart => exact ⟨0, Nat.zero_le _, rfl, rfl⟩
  case round =>
    obtain ⟨k, hk, rfl, hno⟩ := hrel
    have HN := hidP hno
    clear hno
    by_cases hlt : k < ms.length
    · obtain ⟨b, off, rfl, hb, hs⟩ := MSeg.seg hv (by omega)
      have hc := (hs.at hlt).1
      have hi0 : (0 : Int) ≤ (k : Int) := Int.natCast_nonneg _
      have hi1 : (k : Int) < (ms.length : Int) := by omega
      clear hs
      by_cases he : mid ms k = id
      · have HV := hidP (zFindTo_hit hlt HN.out he)
        have heb : (mid ms k == id) = true := by simp [he]
        clear he
        go_wp2_with fail
        go_ret
        exact ⟨ret_int HV.out.symm, rfl⟩
      · have HV := hidP (zFindTo_miss HN.out he)
        have heb : (mid ms k == id) = false := by simp [he]
        clear he
        go_wp2_with fail
        go_round
        case rel => exact ⟨k + 1, by omega, by go_num, HV.out⟩
        case measure => simp [intOf]; omega
    · go_wp2_with fail
      go_ret
      obtain rfl : k = ms.length := by omega
      exact ⟨ret_int HN.out.symm, rfl⟩

theorem zNearI_bd (ms : List Mk) (kd : Int) (p : List Int) (ids : List Int) : -1 ≤ zNearI ms kd p ids ∧ zNearI ms kd p ids ≤ 16000000 := by
  unfold zNearI
  have : ∀ (a : Int), -1 ≤ a → a ≤ 16000000 → -1 ≤ ids.foldl (fun n id => zStep n (betV p (mat ms (zIdx ms id)) kd)) a ∧ ids.foldl (fun n id => zStep n (betV p (mat ms (zIdx ms id)) kd)) a ≤ 16000000 := by
    induction ids with
    | nil => intro a h1 h2; exact ⟨h1, h2⟩
    | cons x ids ih =>
      intro a h1 h2
      simp only [List.foldl_cons]
      have := betV_le p (mat ms (zIdx ms x)) kd
      refine ih _ ?_ ?_ <;> (unfold zStep; split <;> omega)
  exact this _ (by omega) (by omega)
theorem zNearI_take {ms : List Mk} {kd : Int} {p : List Int} {ids : List Int} {k : Nat} (hk : k < ids.length) : zNearI ms kd p (ids.take (k + 1)) = zStep (zNearI ms kd p (ids.take k)) (betV p (mat ms (zIdx ms (nth ids k))) kd) := by
  rw [List.take_succ_eq_append_getElem hk]
  unfold zNearI
  rw [List.foldl_append]
  simp [nth, List.getD, hk]
theorem zStep_no {n d : Int} (h1 : ¬ n < 0) (h2 : ¬ d < n) : zStep n d = n := by unfold zStep; rw [if_neg (by omega)]
theorem zStep_new {n d : Int} (h1 : n < 0) : zStep n d = d := by unfold zStep; rw [if_pos (by omega)]
theorem zStep_less {n d : Int} (h1 : d < n) : zStep n d = d := by unfold zStep; rw [if_pos (by omega)]

set_option maxHeartbeats 1000000 in
theorem sNear11 (ao ap ai : Option Addr) (cap cp ci : Nat) (ms : List Mk) (p ids : List Int) (kd : Int) (w : World) (hv : MView w ao ms) (hp : View w ap p) (hi : View w ai ids) (hsm : MSmall ms) (hpl : p.length ≤ 1048576) (hil : ids.length ≤ 1048576) (hf : ∀ id ∈ ids, 0 ≤ zFind ms id) :
    Calls Try.prog 48 #[.slice ao ms.length cap, .slice ap p.length cp, .slice ai ids.length ci, .int .i64 kd] w fun e w' => e = .returned (.int .i64 (zNearI ms kd p ids)) ∧ ∃ n, w' = w.drewN n := by
  obtain ⟨hn, hat⟩ := hsm
  have HF := hidP hf
  clear hf
  have HA : Hid (zNearI ms kd p ids = zNearI ms kd p (ids.take ids.length)) := by show _ = _; rw [List.take_length]
  have H0 : Hid (zNearI ms kd p (ids.take 0) = -1) := rfl
  go_enter Try.func48, Try.ntmps48
  go_wp2_with fail
  go_loopw [9, 10] (fun s i wr => ∃ k : Nat, k ≤ ids.length ∧ i = .int .i64 k ∧ s = .int .i64 (zNearI ms kd p (ids.take k)) ∧ ∃ n, wr = w.drewN n) (fun _ i _ => ids.length - (intOf i).toNat)
  case atStart => exact ⟨0, Nat.zero_le _, rfl, by rw [H0.out], 0, rfl⟩
  case round =>
    obtain ⟨k, hk, rfl, rfl, hw⟩ := hrel
    have HW : Hid (∃ n, wr = w.drewN n) := hw
    clear hw
    by_cases hlt : k < ids.length
    · obtain ⟨bi, oi, rfl, hbi, hsi⟩ : ∃ b off, ai = some ⟨b, off, none⟩ ∧ b < w.heap.size ∧ Seg w b off ids := by
        rcases hi with h | h
        · subst h; simp at hlt
        · exact h
      have hci : wr.cell? ⟨bi, oi + k, none⟩ = some (.int .i64 (nth ids k)) := by obtain ⟨n, rfl⟩ := HW.out; exact hsi k hlt
      have hmem : nth ids k ∈ ids := by
        have e : nth ids k = ids[k] := by simp [nth, List.getD, hlt]
        rw [e]; exact List.getElem_mem hlt
      obtain ⟨hj, hje, -⟩ := zIdx_lt (HF.out _ hmem)
      have HN := hidP (zNearI_take (ms := ms) (kd := kd) (p := p) hlt)
      have hvw : MView wr ao ms := by obtain ⟨n, rfl⟩ := HW.out; exact hv
      have hpw : View wr ap p := by obtain ⟨n, rfl⟩ := HW.out; exact hp
      obtain ⟨b, off, rfl, hb, hs⟩ := MSeg.seg hvw (by omega)
      obtain ⟨-, ae, ce, hc1, hve⟩ := hs.at hj
      have HC1 := hidP (sFind _ cap ms (nth ids k) wr hvw hn)
      rw [← hje] at HC1
      have HC2 := hidP (sBet ap ae cp ce p (mat ms (zIdx ms (nth ids k))) kd wr hpw hve hpl (hat _))
      have hbd := betV_le p (mat ms (zIdx ms (nth ids k))) kd
      have hmx := zNearI_bd ms kd p (ids.take k)
      generalize hN0 : zNearI ms kd p (ids.take k) = N0 at *
      generalize hN1 : zNearI ms kd p (ids.take (k + 1)) = N1 at *
      have HN1 := hidP hN1
      generalize hD : betV p (mat ms (zIdx ms (nth ids k))) kd = D at *
      generalize zIdx ms (nth ids k) = j at *
      have hi0 : (0 : Int) ≤ (k : Int) := Int.natCast_nonneg _
      have hi1 : (k : Int) < (ids.length : Int) := by omega
      have hj0 : (0 : Int) ≤ (j : Int) := Int.natCast_nonneg _
      have hj1 : (j : Int) < (ms.length : Int) := by omega
      clear hvw hpw hve hs hje hmem hsi hN0 hN1 hD
      go_wp2_with fail
      refine HC1.out.mono ?_
      rintro e w1 ⟨rfl, hw1⟩
      subst w1
      go_wp2_with fail
      refine HC2.out.mono ?_
      rintro e w2 ⟨rfl, n2, hw2⟩
      have HW2 : Hid (∃ n, w2 = w.drewN n) := by obtain ⟨n, hn⟩ := HW.out; exact ⟨n + n2, by rw [hw2, hn]; simp⟩
      clear hw2 HC1 HC2 HW hci hc1
      by_cases h1 : N0 < 0
      · have HE := hidP (HN.out.trans (zStep_new h1))
        go_wp2_with fail
        go_roundw
        case rel => exact ⟨k + 1, by omega, by go_num, by rw [HN1.out, HE.out], HW2.out⟩
        case measure => simp [intOf]; omega
      · by_cases h2 : D < N0
        · have HE := hidP (HN.out.trans (zStep_less h2))
          go_wp2_with fail
          go_roundw
          case rel => exact ⟨k + 1, by omega, by go_num, by rw [HN1.out, HE.out], HW2.out⟩
          case measure => simp [intOf]; omega
        · have HE := hidP (HN.out.trans (zStep_no h1 h2))
          go_wp2_with fail
          go_roundw
          case rel => exact ⟨k + 1, by omega, by go_num, by rw [HN1.out, HE.out], HW2.out⟩
          case measure => simp [intOf]; omega
    · go_wp2_with fail
      go_ret
      obtain rfl : k = ids.length := by omega
      exact ⟨ret_int HA.out.symm, HW.out⟩

end Go.Proofs.Ytpcclaehcmnngaa
namespace Go.Proofs.Ytpcclaehcmnngaa
open Go Go.RowKit

def zNearF (ms : List Mk) (kd : Int) (ids : List Int) (i : Nat) : Int := zNearI ms kd (mat ms i) ids
theorem zNearF_V (ms : List Mk) (kd : Int) (ids : List Int) (i : Nat) : zNearF ms kd ids i = zNearI ms kd (mat ms i) ids := rfl
def zRadI (ms : List Mk) (kd : Int) (ids : List Int) : Int := maxTo (zNearF ms kd ids) ms.length
theorem zRadI_bd (ms : List Mk) (kd : Int) (ids : List Int) (n : Nat) : 0 ≤ maxTo (zNearF ms kd ids) n ∧ maxTo (zNearF ms kd ids) n ≤ 16000000 :=
  maxTo_le _ _ (by omega) (fun i => (zNearI_bd _ _ _ _).2) n
theorem maxV_near (ms : List Mk) (kd : Int) (ids : List Int) (k : Nat) : maxTo (zNearF ms kd ids) (k + 1) = maxV (maxTo (zNearF ms kd ids) k) (zNearF ms kd ids k) := rfl
theorem zRadI_eq {ms : List Mk} (h : marksB ms = true) (kd : Int) (hk : kindB kd = true) (ids : List Int) (hf : ∀ id ∈ ids, 0 ≤ zFind ms id) : zRadI ms kd ids = zRad (zD ms kd) ms.length (ids.map (zIdx ms)) :=
  maxTo_congr _ _ _ (fun _ hi => zNearI_eq h kd hk hi ids hf)

set_option maxHeartbeats 1000000 in
theorem sRad11 (ao ai : Option Addr) (cap ci : Nat) (ms : List Mk) (ids : List Int) (kd : Int) (w : World) (hv : MView w ao ms) (hi : View w ai ids) (hsm : MSmall ms) (hil : ids.length ≤ 1048576) (hf : ∀ id ∈ ids, 0 ≤ zFind ms id) :
    Calls Try.prog 50 #[.slice ao ms.length cap, .slice ai ids.length ci, .int .i64 kd] w fun e w' => e = .returned (.int .i64 (zRadI ms kd ids)) ∧ ∃ n, w' = w.drewN n := by
  have hn := hsm.1
  have HSM := hidP hsm
  have HF := hidP hf
  clear hf hsm
  have HV : Hid (zRadI ms kd ids = maxTo (zNearF ms kd ids) ms.length) := rfl
  go_enter Try.func50, Try.ntmps50
  go_wp2_with fail
  go_loopw [7, 8] (fun s i wr => ∃ k : Nat, k ≤ ms.length ∧ i = .int .i64 k ∧ s = .int .i64 (maxTo (zNearF ms kd ids) k) ∧ ∃ n, wr = w.drewN n) (fun _ i _ => ms.length - (intOf i).toNat)
  case atStart => exact ⟨0, Nat.zero_le _, rfl, rfl, 0, rfl⟩
  case round =>
    obtain ⟨k, hk, rfl, rfl, hw⟩ := hrel
    have HW : Hid (∃ n, wr = w.drewN n) := hw
    clear hw
    by_cases hlt : k < ms.length
    · have hvw : MView wr ao ms := by obtain ⟨n, rfl⟩ := HW.out; exact hv
      have hiw : View wr ai ids := by obtain ⟨n, rfl⟩ := HW.out; exact hi
      obtain ⟨b, off, rfl, hb, hs⟩ := MSeg.seg hvw (by omega)
      obtain ⟨-, ae, ce, hc1, hve⟩ := hs.at hlt
      have HN := hidP (maxV_near ms kd ids k)
      have hbd := zNearI_bd ms kd (mat ms k) ids
      have hmx := zRadI_bd ms kd ids k
      have HCM := hidP (sNear11 _ ae ai cap ce ci ms (mat ms k) ids kd wr hvw hve hiw HSM.out (HSM.out.2 k) hil HF.out)
      rw [← zNearF_V] at HCM hbd
      generalize zNearF ms kd ids k = y at *
      clear hvw hiw hve hs hv hi
      go_wp2_with fail
      refine HCM.out.mono ?_
      rintro e w2 ⟨rfl, n2, hw2⟩
      have HW2 : Hid (∃ n, w2 = w.drewN n) := by obtain ⟨n, hn⟩ := HW.out; exact ⟨n + n2, by rw [hw2, hn]; simp⟩
      clear hw2 HCM
      go_wp2_with fail
      refine (sMax _ _ _).mono ?_
      rintro e w3 ⟨rfl, hw3⟩
      subst w3
      go_wp2_with fail
      go_roundw
      case rel => exact ⟨k + 1, by omega, by go_num, by rw [HN.out], HW2.out⟩
      case measure => simp [intOf]; omega
    · go_wp2_with fail
      go_ret
      obtain rfl : k = ms.length := by omega
      exact ⟨ret_int HV.out.symm, HW.out⟩

theorem radI_bad {ms : List Mk} {ids : List Int} {kd : Int} (h : radB ms ids kd = false) : radI ms ids kd = -1 := by rw [radI, h]; rfl
theorem radB_iff (ms : List Mk) (ids : List Int) (kd : Int) : radB ms ids kd = true ↔ marksB ms = true ∧ ids.length ≠ 0 ∧ kindB kd = true ∧ ∀ id ∈ ids, 0 ≤ zFind ms id := by
  simp [radB, and_assoc]
theorem radB_false {ms : List Mk} {ids : List Int} {kd : Int} (h : ¬ (marksB ms = true ∧ ids.length ≠ 0 ∧ kindB kd = true ∧ ∀ id ∈ ids, 0 ≤ zFind ms id)) : radB ms ids kd = false := by
  rcases hb : radB ms ids kd with _ | _
  · rfl
  · exact absurd ((radB_iff ms ids kd).1 hb) h
theorem radI_good {ms : List Mk} {ids : List Int} {kd : Int} (hm : marksB ms = true) (h0 : ids.length ≠ 0) (hk : kindB kd = true) (hf : ∀ id ∈ ids, 0 ≤ zFind ms id) : radI ms ids kd = zRadI ms kd ids := by
  rw [radI, if_pos ((radB_iff ms ids kd).2 ⟨hm, h0, hk, hf⟩), zRadI_eq hm kd hk ids hf]

set_option maxHeartbeats 1000000 in
theorem sRadius (ao ai : Option Addr) (cap ci : Nat) (ms : List Mk) (ids : List Int) (kd : Int) (w : World) (hv : MView w ao ms) (hi : View w ai ids) (hsm : MSmall ms) (hil : ids.length ≤ 1048576) :
    Calls Try.prog 16 #[.slice ao ms.length cap, .slice ai ids.length ci, .int .i64 kd] w fun e w' => e = .returned (.int .i64 (radI ms ids kd)) ∧ ∃ n, w' = w.drewN n := by
  have HC := hidP (sMarks ao cap ms w hv hsm)
  have HK := fun w => hidP (sKind kd w)
  rcases hm : marksB ms with _ | _
  · have HV := hidP (radI_bad (radB_false (ms := ms) (ids := ids) (kd := kd) (fun h => by rw [hm] at h; exact absurd h.1 (by simp))))
    rw [hm] at HC
    go_enter Try.func16, Try.ntmps16
    go_wp2_with fail
    refine HC.out.mono ?_
    rintro e w1 ⟨rfl, n1, rfl⟩
    go_wp2_with fail
    go_ret
    exact ⟨ret_int HV.out.symm, n1, rfl⟩
  · rw [hm] at HC
    by_cases h0 : ids.length = 0
    · have HV := hidP (radI_bad (radB_false (ms := ms) (ids := ids) (kd := kd) (fun h => absurd h0 h.2.1)))
      have hb0 : ((ids.length : Int) == 0) = true := by simp; simpa using h0
      clear h0
      go_enter Try.func16, Try.ntmps16
      go_wp2_with fail
      refine HC.out.mono ?_
      rintro e w1 ⟨rfl, n1, rfl⟩
      go_wp2_with fail
      go_ret
      exact ⟨ret_int HV.out.symm, n1, rfl⟩
    · have hb0 : ((ids.length : Int) == 0) = false := by simp; simpa using h0
      rcases hkd : kindB kd with _ | _
      · have HV := hidP (radI_bad (radB_false (ms := ms) (ids := ids) (kd := kd) (fun h => by rw [hkd] at h; exact absurd h.2.2.1 (by simp))))
        rw [hkd] at HK
        clear h0
        go_enter Try.func16, Try.ntmps16
        go_wp2_with fail
        refine HC.out.mono ?_
        rintro e w1 ⟨rfl, n1, rfl⟩
        go_wp2_with fail
        refine (HK _).out.mono ?_
        rintro e w2 ⟨rfl, rfl⟩
        go_wp2_with fail
        go_ret
        exact ⟨ret_int HV.out.symm, n1, rfl⟩
      · rw [hkd] at HK
        have H0 := hidP h0
        have hn := hsm.1
        clear h0
        go_enter Try.func16, Try.ntmps16
        go_wp2_with fail
        refine HC.out.mono ?_
        rintro e w1 ⟨rfl, n1, rfl⟩
        go_wp2_with fail
        refine (HK _).out.mono ?_
        rintro e w2 ⟨rfl, rfl⟩
        clear HK HC
        have HM := hidP hm
        have HKD := hidP hkd
        clear hm hkd
        go_wp2_with fail
        have hvw := hv.drewN n1
        have hiw := hi.drewN n1
        have HW : Hid (∃ n, w.drewN n1 = w.drewN n) := ⟨n1, rfl⟩
        generalize w.drewN n1 = W at *
        go_loop [7] (fun i => ∃ k : Nat, k ≤ ids.length ∧ i = .int .i64 k ∧ (∀ j, j < k → 0 ≤ zFind ms (nth ids j))) (fun i => ids.length - (intOf i).toNat)
        case atStart => exact ⟨0, Nat.zero_le _, rfl, fun j hj => by omega⟩
        case round =>
          obtain ⟨k, hk, rfl, hall⟩ := hrel
          have HA := hidP hall
          clear hall
          by_cases hlt : k < ids.length
          · obtain ⟨bi, oi, rfl, hbi, hsi⟩ : ∃ b off, ai = some ⟨b, off, none⟩ ∧ b < W.heap.size ∧ Seg W b off ids := by
              rcases hiw with h | h
              · subst h; simp at hlt
              · exact h
            have hci := hsi k hlt
            have hmem : nth ids k ∈ ids := by
              have e : nth ids k = ids[k] := by simp [nth, List.getD, hlt]
              rw [e]; exact List.getElem_mem hlt
            have HC1 := hidP (sFind ao cap ms (nth ids k) W hvw hn)
            have hi0 : (0 : Int) ≤ (k : Int) := Int.natCast_nonneg _
            have hi1 : (k : Int) < (ids.length : Int) := by omega
            clear hsi
            by_cases hng : zFind ms (nth ids k) < 0
            · have HV := hidP (radI_bad (radB_false (ms := ms) (ids := ids) (kd := kd) (fun h => by have := h.2.2.2 _ hmem; omega)))
              clear hmem
              go_wp2_with fail
              refine HC1.out.mono ?_
              rintro e w1 ⟨rfl, hw1⟩
              subst w1
              go_wp2_with fail
              go_ret
              exact ⟨ret_int HV.out.symm, HW.out⟩
            · have HG := hidP (Int.not_lt.1 hng)
              clear hmem
              go_wp2_with fail
              refine HC1.out.mono ?_
              rintro e w1 ⟨rfl, hw1⟩
              subst w1
              go_wp2_with fail
              go_round
              case rel => exact ⟨k + 1, by omega, by go_num, fun j hj => by
                rcases Nat.lt_or_ge j k with h | h
                · exact HA.out j h
                · rw [show j = k by omega]; exact HG.out⟩
              case measure => simp [intOf]; omega
          · have HF : Hid (∀ id ∈ ids, 0 ≤ zFind ms id) := fun id hid => by
              obtain ⟨j, hj, rfl⟩ := List.getElem_of_mem hid
              have := HA.out j (by omega)
              simpa [nth, List.getD, hj] using this
            have HV := hidP (radI_good HM.out H0.out HKD.out HF.out)
            have HCR := hidP (sRad11 ao ai cap ci ms ids kd W hvw hiw hsm hil HF.out)
            go_wp2_with fail
            refine HCR.out.mono ?_
            rintro e w3 ⟨rfl, n3, rfl⟩
            go_wp2_with fail
            go_ret
            refine ⟨ret_int HV.out.symm, ?_⟩
            obtain ⟨n, hn⟩ := HW.out
            exact ⟨n + n3, by rw [hn]; simp⟩

end Go.Proofs.Ytpcclaehcmnngaa
