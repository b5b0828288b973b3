/-
  The given l2Find, l11Near, l11Radius and Radius answer zFind, zNearI, the greatest of them, and radI.
-/
import Derived.Test.YtpcclaehcmnngaaZIds
import Derived.Test.YtpcclaehcmnngaaMid
namespace Go.Proofs.Ytpcclaehcmnngaa
open Go Go.RowKit

theorem zFindTo_stay {ms : List Mk} {id : Int} {m : Nat} (h : 0 ≤ zFindTo ms id m) : ∀ n, m ≤ n → zFindTo ms id n = zFindTo ms id m := by
  intro n hn
  induction n with
  | zero => rw [show m = 0 by omega]
  | succ n ih =>
    rcases Nat.lt_or_ge m (n + 1) with h1 | h1
    · have e := ih (by omega)
      simp only [zFindTo]
      rw [e, if_pos h]
    · rw [show m = n + 1 by omega]
theorem zFindTo_hit {ms : List Mk} {id : Int} {k : Nat} (hk : k < ms.length) (h : zFindTo ms id k = -1) (e : mid ms k = id) : zFind ms id = k := by
  have h1 : zFindTo ms id (k + 1) = k := by simp only [zFindTo]; rw [h, if_neg (by omega), if_pos e]
  have h2 := zFindTo_stay (ms := ms) (id := id) (m := k + 1) (by omega) ms.length (by omega)
  unfold zFind
  omega
theorem zFindTo_miss {ms : List Mk} {id : Int} {k : Nat} (h : zFindTo ms id k = -1) (e : ¬ mid ms k = id) : zFindTo ms id (k + 1) = -1 := by
  simp only [zFindTo]; rw [h, if_neg (by omega), if_neg e]

set_option maxHeartbeats 400000 in
theorem sFind (ao : Option Addr) (cap : Nat) (ms : List Mk) (id : Int) (w : World) (hv : MView w ao ms) (hn : ms.length ≤ 1048576) :
    Calls Try.prog 49 #[.slice ao ms.length cap, .int .i64 id] w fun e w' => e = .returned (.int .i64 (zFind ms id)) ∧ w' = w := by
  go_enter Try.func49, Try.ntmps49
  go_wp2_with fail
  go_loop [5] (fun i => ∃ k : Nat, k ≤ ms.length ∧ i = .int .i64 k ∧ zFindTo ms id k = -1) (fun i => ms.length - (intOf i).toNat)
  case atStart => exact ⟨0, Nat.zero_le _, rfl, rfl⟩
  case round =>
    obtain ⟨k, hk, rfl, hno⟩ := hrel
    have HN := hidP hno
    clear hno
    by_cases hlt : k < ms.length
    · obtain ⟨b, off, rfl, hb, hs⟩ := MSeg.seg hv (by omega)
      have hc := (hs.at hlt).1
      have hi0 : (0 : Int) ≤ (k : Int) := Int.natCast_nonneg _
      have hi1 : (k : Int) < (ms.length : Int) := by omega
      clear hs
      by_cases he : mid ms k = id
      · have HV := hidP (zFindTo_hit hlt HN.out he)
        have heb : (mid ms k == id) = true := by simp [he]
        clear he
        go_wp2_with fail
        go_ret
        exact ⟨ret_int HV.out.symm, rfl⟩
      · have HV := hidP (zFindTo_miss HN.out he)
        have heb : (mid ms k == id) = false := by simp [he]
        clear he
        go_wp2_with fail
        go_round
        case rel => exact ⟨k + 1, by omega, by go_num, HV.out⟩
        case measure => simp [intOf]; omega
    · go_wp2_with fail
      go_ret
      obtain rfl : k = ms.length := by omega
      exact ⟨ret_int HN.out.symm, rfl⟩

theorem zNearI_bd (ms : List Mk) (kd : Int) (p : List Int) (ids : List Int) : -1 ≤ zNearI ms kd p ids ∧ zNearI ms kd p ids ≤ 16000000 := by
  unfold zNearI
  have : ∀ (a : Int), -1 ≤ a → a ≤ 16000000 → -1 ≤ ids.foldl (fun n id => zStep n (betV p (mat ms (zIdx ms id)) kd)) a ∧ ids.foldl (fun n id => zStep n (betV p (mat ms (zIdx ms id)) kd)) a ≤ 16000000 := by
    induction ids with
    | nil => intro a h1 h2; exact ⟨h1, h2⟩
    | cons x ids ih =>
      intro a h1 h2
      simp only [List.foldl_cons]
      have := betV_le p (mat ms (zIdx ms x)) kd
      refine ih _ ?_ ?_ <;> (unfold zStep; split <;> omega)
  exact this _ (by omega) (by omega)
theorem zNearI_take {ms : List Mk} {kd : Int} {p : List Int} {ids : List Int} {k : Nat} (hk : k < ids.length) : zNearI ms kd p (ids.take (k + 1)) = zStep (zNearI ms kd p (ids.take k)) (betV p (mat ms (zIdx ms (nth ids k))) kd) := by
  rw [List.take_succ_eq_append_getElem hk]
  unfold zNearI
  rw [List.foldl_append]
  simp [nth, List.getD, hk]
theorem zStep_no {n d : Int} (h1 : ¬ n < 0) (h2 : ¬ d < n) : zStep n d = n := by unfold zStep; rw [if_neg (by omega)]
theorem zStep_new {n d : Int} (h1 : n < 0) : zStep n d = d := by unfold zStep; rw [if_pos (by omega)]
theorem zStep_less {n d : Int} (h1 : d < n) : zStep n d = d := by unfold zStep; rw [if_pos (by omega)]

set_option maxHeartbeats 1000000 in
theorem sNear11 (ao ap ai : Option Addr) (cap cp ci : Nat) (ms : List Mk) (p ids : List Int) (kd : Int) (w : World) (hv : MView w ao ms) (hp : View w ap p) (hi : View w ai ids) (hsm : MSmall ms) (hpl : p.length ≤ 1048576) (hil : ids.length ≤ 1048576) (hf : ∀ id ∈ ids, 0 ≤ zFind ms id) :
    Calls Try.prog 48 #[.slice ao ms.length cap, .slice ap p.length cp, .slice ai ids.length ci, .int .i64 kd] w fun e w' => e = .returned (.int .i64 (zNearI ms kd p ids)) ∧ ∃ n, w' = w.drewN n := by
  obtain ⟨hn, hat⟩ := hsm
  have HF := hidP hf
  clear hf
  have HA : Hid (zNearI ms kd p ids = zNearI ms kd p (ids.take ids.length)) := by show _ = _; rw [List.take_length]
  have H0 : Hid (zNearI ms kd p (ids.take 0) = -1) := rfl
  go_enter Try.func48, Try.ntmps48
  go_wp2_with fail
  go_loopw [9, 10] (fun s i wr => ∃ k : Nat, k ≤ ids.length ∧ i = .int .i64 k ∧ s = .int .i64 (zNearI ms kd p (ids.take k)) ∧ ∃ n, wr = w.drewN n) (fun _ i _ => ids.length - (intOf i).toNat)
  case atStart => exact ⟨0, Nat.zero_le _, rfl, by rw [H0.out], 0, rfl⟩
  case round =>
    obtain ⟨k, hk, rfl, rfl, hw⟩ := hrel
    have HW : Hid (∃ n, wr = w.drewN n) := hw
    clear hw
    by_cases hlt : k < ids.length
    · obtain ⟨bi, oi, rfl, hbi, hsi⟩ : ∃ b off, ai = some ⟨b, off, none⟩ ∧ b < w.heap.size ∧ Seg w b off ids := by
        rcases hi with h | h
        · subst h; simp at hlt
        · exact h
      have hci : wr.cell? ⟨bi, oi + k, none⟩ = some (.int .i64 (nth ids k)) := by obtain ⟨n, rfl⟩ := HW.out; exact hsi k hlt
      have hmem : nth ids k ∈ ids := by
        have e : nth ids k = ids[k] := by simp [nth, List.getD, hlt]
        rw [e]; exact List.getElem_mem hlt
      obtain ⟨hj, hje, -⟩ := zIdx_lt (HF.out _ hmem)
      have HN := hidP (zNearI_take (ms := ms) (kd := kd) (p := p) hlt)
      have hvw : MView wr ao ms := by obtain ⟨n, rfl⟩ := HW.out; exact hv
      have hpw : View wr ap p := by obtain ⟨n, rfl⟩ := HW.out; exact hp
      obtain ⟨b, off, rfl, hb, hs⟩ := MSeg.seg hvw (by omega)
      obtain ⟨-, ae, ce, hc1, hve⟩ := hs.at hj
      have HC1 := hidP (sFind _ cap ms (nth ids k) wr hvw hn)
      rw [← hje] at HC1
      have HC2 := hidP (sBet ap ae cp ce p (mat ms (zIdx ms (nth ids k))) kd wr hpw hve hpl (hat _))
      have hbd := betV_le p (mat ms (zIdx ms (nth ids k))) kd
      have hmx := zNearI_bd ms kd p (ids.take k)
      generalize hN0 : zNearI ms kd p (ids.take k) = N0 at *
      generalize hN1 : zNearI ms kd p (ids.take (k + 1)) = N1 at *
      have HN1 := hidP hN1
      generalize hD : betV p (mat ms (zIdx ms (nth ids k))) kd = D at *
      generalize zIdx ms (nth ids k) = j at *
      have hi0 : (0 : Int) ≤ (k : Int) := Int.natCast_nonneg _
      have hi1 : (k : Int) < (ids.length : Int) := by omega
      have hj0 : (0 : Int) ≤ (j : Int) := Int.natCast_nonneg _
      have hj1 : (j : Int) < (ms.length : Int) := by omega
      clear hvw hpw hve hs hje hmem hsi hN0 hN1 hD
      go_wp2_with fail
      refine HC1.out.mono ?_
      rintro e w1 ⟨rfl, hw1⟩
      subst w1
      go_wp2_with fail
      refine HC2.out.mono ?_
      rintro e w2 ⟨rfl, n2, hw2⟩
      have HW2 : Hid (∃ n, w2 = w.drewN n) := by obtain ⟨n, hn⟩ := HW.out; exact ⟨n + n2, by rw [hw2, hn]; simp⟩
      clear hw2 HC1 HC2 HW hci hc1
      by_cases h1 : N0 < 0
      · have HE := hidP (HN.out.trans (zStep_new h1))
        go_wp2_with fail
        go_roundw
        case rel => exact ⟨k + 1, by omega, by go_num, by rw [HN1.out, HE.out], HW2.out⟩
        case measure => simp [intOf]; omega
      · by_cases h2 : D < N0
        · have HE := hidP (HN.out.trans (zStep_less h2))
          go_wp2_with fail
          go_roundw
          case rel => exact ⟨k + 1, by omega, by go_num, by rw [HN1.out, HE.out], HW2.out⟩
          case measure => simp [intOf]; omega
        · have HE := hidP (HN.out.trans (zStep_no h1 h2))
          go_wp2_with fail
          go_roundw
          case rel => exact ⟨k + 1, by omega, by go_num, by rw [HN1.out, HE.out], HW2.out⟩
          case measure => simp [intOf]; omega
    · go_wp2_with fail
      go_ret
      obtain rfl : k = ids.length := by omega
      exact ⟨ret_int HA.out.symm, HW.out⟩

end Go.Proofs.Ytpcclaehcmnngaa
