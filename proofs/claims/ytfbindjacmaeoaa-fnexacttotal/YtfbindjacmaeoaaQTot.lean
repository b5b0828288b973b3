/-
  The program's own Total.
-/
import Derived.Test.YtfbindjacmaeoaaEWalk
namespace Go.Proofs.Ytfbindjacmaeoaa
open Go Go.RowKit

def totTo (ts : List Th) (k : Nat) : Int := totS (ts.take k)
theorem totTo_zero (ts : List Th) : totTo ts 0 = 0 := by simp [totTo, totS]
theorem totTo_succ {ts : List Th} {k : Nat} (h : k < ts.length) : totTo ts (k + 1) = totTo ts k + (tnth ts k).2.2 := by
  unfold totTo totS
  rw [List.take_succ_eq_append_getElem h, List.map_append, List.sum_append, tnth_get h]
  simp
theorem totTo_bd {ts : List Th} {k : Nat} (h : ∀ j, j < k → lngB (tnth ts j) = true) (hk : k ≤ ts.length) : 0 ≤ totTo ts k ∧ totTo ts k ≤ 1099511627776 * (k : Int) := by
  induction k with
  | zero => rw [totTo_zero]; omega
  | succ k ih =>
    have h1 := ih (fun j hj => h j (by omega)) (by omega)
    have h2 := h k (by omega)
    simp only [lngB, Bool.and_eq_true, decide_eq_true_eq] at h2
    rw [totTo_succ (by omega)]
    omega
theorem totV_yes {ts : List Th} (h : ∀ j, j < ts.length → lngB (tnth ts j) = true) : totV ts = totTo ts ts.length := by
  have : ts.all lngB = true := List.all_eq_true.2 (fun t ht => by
    obtain ⟨j, hj, rfl⟩ := List.getElem_of_mem ht
    rw [← tnth_get hj]
    exact h j hj)
  rw [totV, if_pos this, totTo, List.take_length]
theorem totV_no {ts : List Th} {k : Nat} (hk : k < ts.length) (h : lngB (tnth ts k) = false) : totV ts = -1 := by
  rw [totV, if_neg]
  intro ha
  rw [List.all_eq_true.1 ha _ (tnth_mem hk)] at h
  cases h

set_option maxRecDepth 100000 in
set_option maxHeartbeats 2000000 in
theorem iTotal : ITotal := fun ao cap ts w hv hn => by
  have HV := hidP hv
  clear hv
  go_enter Try.func19, Try.ntmps19
  go_wp2_with fail
  go_loopw [3, 8] (fun s i wr => ∃ k : Nat, k ≤ ts.length ∧ i = .int .i64 k ∧ s = .int .i64 (totTo ts k) ∧ (∀ j, j < k → lngB (tnth ts j) = true) ∧ Below w.heap.size w wr) (fun _ i _ => ts.length - (intOf i).toNat)
  case atStart => exact ⟨0, Nat.zero_le _, rfl, by rw [totTo_zero], fun j hj => by omega, Below.refl _ _⟩
  case round =>
    obtain ⟨k, hk, rfl, rfl, hall, L⟩ := hrel
    have HA := hidP hall
    have HL := hidP L
    by_cases hlt : k < ts.length
    · obtain ⟨b, off, rfl, hb, hs⟩ := (HV.out.next L).seg (by omega)
      obtain ⟨c0, c1, c2⟩ := hs k hlt
      have hi0 : (0 : Int) ≤ (k : Int) := Int.natCast_nonneg _
      have hi1 : (k : Int) < (ts.length : Int) := by omega
      have hbd := totTo_bd hall hk
      have HS := hidP (totTo_succ hlt)
      have HB := hidP (L.trans (((Below.refl wr.heap.size wr).alloc (Nat.le_refl _) (.cells #[.int .i64 (tnth ts k).1, .int .i64 (tnth ts k).2.1, .int .i64 (tnth ts k).2.2] 41)).mono L.size))
      have HNO := hidP (totV_no hlt)
      have HG : Hid (0 ≤ (tnth ts k).2.2 → (tnth ts k).2.2 ≤ 1099511627776 → lngB (tnth ts k) = true) := fun h1 h2 => by simp [lngB, h1, h2]
      have HGN : Hid ((tnth ts k).2.2 < 0 ∨ 1099511627776 < (tnth ts k).2.2 → lngB (tnth ts k) = false) := fun h => by
        have : ¬ (0 ≤ (tnth ts k).2.2 ∧ (tnth ts k).2.2 ≤ 1099511627776) := by omega
        rcases h' : lngB (tnth ts k) with _ | _
        · rfl
        · simp only [lngB, Bool.and_eq_true, decide_eq_true_eq] at h'; exact absurd h' this
      clear hall L hs
      generalize totTo ts k = T at *
      by_cases h1 : (tnth ts k).2.2 < 0
      · have HF := hidP (HNO.out (HGN.out (Or.inl h1)))
        clear HS HG HGN
        go_wp2_with fail
        go_ret
        exact ⟨by rw [HF.out]; rfl, HB.out⟩
      · by_cases h2 : (tnth ts k).2.2 > 1099511627776
        · have HF := hidP (HNO.out (HGN.out (Or.inr h2)))
          clear HS HG HGN
          go_wp2_with fail
          go_ret
          exact ⟨by rw [HF.out]; rfl, HB.out⟩
        · have HF := hidP (HG.out (by omega) (by omega))
          have hwr : IntKind.i64.wrap (T + (tnth ts k).2.2) = T + (tnth ts k).2.2 := IntWalk.i64_in _ ⟨by omega, by omega⟩
          clear HG HGN HNO
          go_wp2_with fail
          go_roundw
          case rel => exact ⟨k + 1, by omega, by go_num, by rw [HS.out], fun j hj => by
            rcases Nat.lt_or_ge j k with h | h
            · exact HA.out j h
            · obtain rfl : j = k := by omega
              exact HF.out, HB.out⟩
          case measure => simp [intOf]; omega
    · obtain rfl : k = ts.length := by omega
      have HF := hidP (totV_yes HA.out)
      clear hall L
      go_wp2_with fail
      go_ret
      exact ⟨by rw [HF.out]; rfl, HL.out⟩

end Go.Proofs.Ytfbindjacmaeoaa
