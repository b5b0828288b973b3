/-
  The program's own levels: has, rise, ok of one list of them, and LevelsOk.
-/
import Derived.Test.YthkaiienfkihmaaLvWalk
namespace Go.Proofs.Ythkaiienfkihmaa
open Go Go.RowKit

/-- Each from low to high, and above the one ahead of it. -/
def lvKeepTo (l : List Int) (k : Nat) : Prop := (∀ j, j < k → -1000 ≤ nth l j ∧ nth l j ≤ 1000) ∧ ∀ j, j + 1 < k → nth l j < nth l (j + 1)
def lvLow (l : List Int) (k : Nat) : Int := if k = 0 then -1000 else nth l (k - 1) + 1
theorem lvLow_ok {l : List Int} {k : Nat} (h : lvKeepTo l k) : -1000 ≤ lvLow l k ∧ lvLow l k ≤ 1001 := by
  unfold lvLow
  by_cases h0 : k = 0
  · simp [h0]
  · have := h.1 (k - 1) (by omega)
    simp [h0]; omega
theorem lvLow_succ (l : List Int) (k : Nat) : lvLow l (k + 1) = nth l k + 1 := by simp [lvLow]
theorem lvKeepTo_succ {l : List Int} {k : Nat} (h : lvKeepTo l k) (h1 : lvLow l k ≤ nth l k) (h2 : nth l k ≤ 1000) : lvKeepTo l (k + 1) := by
  have hlo := lvLow_ok h
  refine ⟨fun j hj => ?_, fun j hj => ?_⟩
  · rcases Nat.lt_or_ge j k with e | e
    · exact h.1 j e
    · obtain rfl : j = k := by omega
      exact ⟨by omega, h2⟩
  · rcases Nat.lt_or_ge (j + 1) k with e | e
    · exact h.2 j e
    · obtain rfl : k = j + 1 := by omega
      rw [lvLow_succ] at h1
      omega
/-- What rise tells. -/
def lvUp (l : List Int) : Bool := lvRise l && decide (∀ j, j < l.length → -1000 ≤ nth l j ∧ nth l j ≤ 1000)
theorem lvUp_iff (l : List Int) : lvUp l = true ↔ lvKeepTo l l.length := by
  simp only [lvUp, Bool.and_eq_true, decide_eq_true_eq, lvRise_iff, lvKeepTo]
  exact ⟨fun h => ⟨h.2, h.1⟩, fun h => ⟨h.2, h.1⟩⟩
theorem lvUp_no {l : List Int} {k : Nat} (hk : k < l.length) (h : nth l k < lvLow l k ∨ 1000 < nth l k) : lvUp l = false := by
  rcases e : lvUp l with _ | _
  · rfl
  · have h' := (lvUp_iff l).1 e
    have h1 := h'.1 k hk
    rcases h with h | h
    · rcases Nat.eq_zero_or_pos k with e0 | e0
      · subst e0
        simp [lvLow] at h
        omega
      · obtain ⟨j, rfl⟩ : ∃ j, k = j + 1 := ⟨k - 1, by omega⟩
        rw [lvLow_succ] at h
        have := h'.2 j hk
        omega
    · omega
theorem lvOk_up (l : List Int) : lvOk l = (decide (0 < l.length) && !decide (16 < l.length) && lvUp l) := by
  have key : lvOk l = true ↔ (decide (0 < l.length) && !decide (16 < l.length) && lvUp l) = true := by
    simp only [Bool.and_eq_true, decide_eq_true_eq, Bool.not_eq_true', decide_eq_false_iff_not, lvUp_iff]
    constructor
    · intro h
      have h' := (lvOk_iff l).1 h
      exact ⟨⟨by omega, by omega⟩, fun j hj => lvOk_at h hj, (lvRise_iff l).1 h'.2.2.1⟩
    · rintro ⟨⟨h1, h2⟩, h3, h4⟩
      exact (lvOk_iff l).2 ⟨by omega, by omega, (lvRise_iff l).2 h4, (h3 0 (by omega)).1, (h3 _ (by omega)).2⟩
  rcases e1 : lvOk l with _ | _ <;> rcases e2 : (decide (0 < l.length) && !decide (16 < l.length) && lvUp l) with _ | _
  · rfl
  · have := key.2 e2; rw [e1] at this; cases this
  · have := key.1 e1; rw [e2] at this; cases this
  · rfl

set_option maxHeartbeats 400000 in
theorem pHas (ao : Option Addr) (n cap : Nat) (at' : Int) (w : World) :
    Calls Try.prog 61 #[.slice ao n cap, .int .i64 at'] w fun e w' => e = .returned (.bool (decide (0 ≤ at') && decide (at' < n))) ∧ w' = w := by
  by_cases h0 : 0 ≤ at'
  · by_cases h1 : at' < n
    · have HR : Hid ((decide (0 ≤ at') && decide (at' < n)) = true) := by show _ = _; simp [h0, h1]
      rw [HR.out]
      go_enter Try.func61, Try.ntmps61
      go_wp2
      go_ret
      exact ⟨rfl, rfl⟩
    · have HR : Hid ((decide (0 ≤ at') && decide (at' < n)) = false) := by show _ = _; simp [h1]
      rw [HR.out]
      go_enter Try.func61, Try.ntmps61
      go_wp2
      go_ret
      exact ⟨rfl, rfl⟩
  · have HR : Hid ((decide (0 ≤ at') && decide (at' < n)) = false) := by show _ = _; simp [h0]
    rw [HR.out]
    go_enter Try.func61, Try.ntmps61
    go_wp2
    go_ret
    exact ⟨rfl, rfl⟩

set_option maxHeartbeats 400000 in
theorem pRise (b off cap : Nat) (l : List Int) (w : World) (hs : Seg w b off l) (hn : l.length ≤ 1048576) :
    Calls Try.prog 63 #[.slice (some ⟨b, off, none⟩) l.length cap, .int .i64 (-1000), .int .i64 1000] w fun e w' => e = .returned (.bool (lvUp l)) ∧ w' = w := by
  go_enter Try.func63, Try.ntmps63
  go_wp2
  go_loop [1, 11] (fun lo i => ∃ k : Nat, k ≤ l.length ∧ i = .int .i64 k ∧ lo = .int .i64 (lvLow l k) ∧ lvKeepTo l k) (fun _ i => l.length - (intOf i).toNat)
  case atStart => exact ⟨0, Nat.zero_le _, rfl, rfl, fun j hj => by omega, fun j hj => by omega⟩
  case round =>
    obtain ⟨k, hk, rfl, rfl, hkeep⟩ := hrel
    have HK := hidP hkeep
    have hlo := lvLow_ok hkeep
    clear hkeep
    obtain ⟨lo, hlow⟩ : ∃ lo, lvLow l k = lo := ⟨_, rfl⟩
    rw [hlow] at hlo
    rw [hlow]
    have HLO := hidP hlow
    clear hlow
    by_cases hlt : k < l.length
    · have hc := hs k hlt
      by_cases ha : nth l k < lo
      · go_wp2
        go_ret
        exact ⟨ret_bool (Eq.symm (lvUp_no hlt (Or.inl (by rw [HLO.out]; exact ha)))), rfl⟩
      · by_cases hb : 1000 < nth l k
        · go_wp2
          go_ret
          exact ⟨ret_bool (Eq.symm (lvUp_no hlt (Or.inr hb))), rfl⟩
        · go_wp2
          go_round
          case rel => exact ⟨k + 1, by omega, by go_num, by rw [lvLow_succ], lvKeepTo_succ HK.out (by rw [HLO.out]; omega) (by omega)⟩
          case measure => simp [intOf]; omega
    · go_wp2
      go_ret
      obtain rfl : k = l.length := by omega
      exact ⟨ret_bool (Eq.symm ((lvUp_iff l).2 HK.out)), rfl⟩

set_option maxHeartbeats 400000 in
theorem iScaleOf (ao : Option Addr) (n cap : Nat) (w : World) :
    Calls Try.prog 41 #[.slice ao n cap] w fun e w' => e = .returned (.agg #[.slice ao n cap]) ∧ Below w.heap.size w w' := by
  go_enter Try.func41, Try.ntmps41
  go_wp2_with fail
  refine bodyPost_ret (v := .agg #[.slice ao n cap]) (by simp [results, Try.results41, go_sem]) rfl ?_
  exact ⟨rfl, (Below.refl _ _).alloc (Nat.le_refl _) _⟩

set_option maxHeartbeats 400000 in
theorem iScOk (ao : Option Addr) (cap : Nat) (l : List Int) (w : World) (hv : View w ao l) (hn : l.length ≤ 1048576) :
    Calls Try.prog 52 #[.agg #[.slice ao l.length cap]] w fun e w' => e = .returned (.bool (lvOk l)) ∧ Below w.heap.size w w' := by
  rw [lvOk_up]
  have L0 : Below w.heap.size w (w.alloc (.cells #[.slice ao l.length cap] 54)) := (Below.refl _ _).alloc (Nat.le_refl _) _
  have H0 := hidP (pHas ao l.length cap 0 (w.alloc (.cells #[.slice ao l.length cap] 54)))
  have H1 := hidP (pHas ao l.length cap 16 (w.alloc (.cells #[.slice ao l.length cap] 54)))
  by_cases h1 : 0 < l.length
  · have e0 : (decide ((0 : Int) ≤ 0) && decide ((0 : Int) < (l.length : Int))) = true := by simp; omega
    rw [e0] at H0
    clear e0
    by_cases h2 : 16 < l.length
    · have e1 : (decide ((0 : Int) ≤ 16) && decide ((16 : Int) < (l.length : Int))) = true := by simp; omega
      rw [e1] at H1
      have HE : Hid ((decide (0 < l.length) && !decide (16 < l.length) && lvUp l) = false) := by show _ = _; simp [h2]
      rw [HE.out]
      have HL := hidP L0
      clear e1 L0 hv
      go_enter Try.func52, Try.ntmps52
      go_wp2_with fail
      refine H0.out.mono ?_
      rintro e w1 ⟨rfl, rfl⟩
      go_wp2_with fail
      refine H1.out.mono ?_
      rintro e w1 ⟨rfl, rfl⟩
      go_wp2_with fail
      go_ret
      exact ⟨rfl, HL.out⟩
    · have e1 : (decide ((0 : Int) ≤ 16) && decide ((16 : Int) < (l.length : Int))) = false := by simp; omega
      rw [e1] at H1
      have HE : Hid ((decide (0 < l.length) && !decide (16 < l.length) && lvUp l) = lvUp l) := by show _ = _; simp [h2, h1]
      rw [HE.out]
      obtain ⟨b, off, rfl, hbs, hseg⟩ : ∃ b off, ao = some ⟨b, off, none⟩ ∧ b < w.heap.size ∧ Seg w b off l := by
        rcases hv with rfl | h
        · simp at h1
        · exact h
      have H2 := hidP (pRise b off cap l _ (hseg.alloc hbs (.cells #[.slice (some ⟨b, off, none⟩) l.length cap] 54)) hn)
      have HL := hidP L0
      clear e1 L0 hseg
      go_enter Try.func52, Try.ntmps52
      go_wp2_with fail
      refine H0.out.mono ?_
      rintro e w1 ⟨rfl, rfl⟩
      go_wp2_with fail
      refine H1.out.mono ?_
      rintro e w1 ⟨rfl, rfl⟩
      go_wp2_with fail
      refine H2.out.mono ?_
      rintro e w1 ⟨rfl, rfl⟩
      go_wp2_with fail
      go_ret
      exact ⟨rfl, HL.out⟩
  · have e0 : (decide ((0 : Int) ≤ 0) && decide ((0 : Int) < (l.length : Int))) = false := by rw [show l.length = 0 by omega]; rfl
    rw [e0] at H0
    have HE : Hid ((decide (0 < l.length) && !decide (16 < l.length) && lvUp l) = false) := by show _ = _; simp [h1]
    rw [HE.out]
    have HL := hidP L0
    clear e0 L0 hv
    go_enter Try.func52, Try.ntmps52
    go_wp2_with fail
    refine H0.out.mono ?_
    rintro e w1 ⟨rfl, rfl⟩
    go_wp2_with fail
    go_ret
    exact ⟨rfl, HL.out⟩

set_option maxHeartbeats 1000000 in
theorem iLevels13 : ILevels := by
  intro a0 c0 ls w hv hsm hcap
  by_cases hb : ls.length < 1 ∨ 4 < ls.length
  · have HE := hidP (levB_many hb)
    rw [HE.out]
    have hl := hsm.1
    rcases hb with h | h
    · go_enter Try.func22, Try.ntmps22
      go_wp2_with fail
      go_ret
      exact ⟨rfl, Below.refl _ _⟩
    · have h1 : ¬ ls.length < 1 := by omega
      go_enter Try.func22, Try.ntmps22
      go_wp2_with fail
      go_ret
      exact ⟨rfl, Below.refl _ _⟩
  · have hlo : ¬ ls.length < 1 := by omega
    have hhi : ¬ 4 < ls.length := by omega
    obtain ⟨b, off, rfl, hbs, hseg⟩ := hv.seg (by omega)
    have HS := hidP hseg
    have HM := hidP hsm
    clear hb hv hseg hsm
    go_enter Try.func22, Try.ntmps22
    go_wp2_with fail
    go_loopw [15] (fun i wr => ∃ k : Nat, k ≤ ls.length ∧ i = .int .i64 k ∧ (∀ j, j < k → lvOk (cn ls j) = true) ∧ Below w.heap.size w wr) (fun i _ => ls.length - (intOf i).toNat)
    case atStart => exact ⟨0, Nat.zero_le _, rfl, fun j hj => by omega, Below.refl _ _⟩
    case round =>
      obtain ⟨k, hk, rfl, hall, L⟩ := hrel
      have HA := hidP hall
      clear hall
      by_cases hlt : k < ls.length
      · obtain ⟨a, c, hc, hvk⟩ := HS.out k hlt
        have hc' := (L.cell (p := ⟨b, off + k, none⟩) hbs).trans hc
        have HV := hidP (hvk.below (Nat.le_refl _) L)
        have HLk := hidP (HM.out.2 k)
        have HL := hidP L
        clear hc hvk L
        go_wp2_with fail
        refine (iScaleOf a (cn ls k).length c _).mono ?_
        rintro e w1 ⟨rfl, L1⟩
        have HV1 := hidP (HV.out.next L1)
        have HL1 := hidP (chain HL.out L1)
        clear L1
        have HC := hidP (iScOk a c (cn ls k) w1 HV1.out HLk.out)
        rcases hok : lvOk (cn ls k) with _ | _
        · rw [hok] at HC
          go_wp2_with fail
          refine HC.out.mono ?_
          rintro e w2 ⟨rfl, L2⟩
          have HL2 := hidP (chain HL1.out L2)
          clear L2
          go_wp2_with fail
          go_ret
          exact ⟨ret_bool (Eq.symm (levB_no hlt hok)), HL2.out⟩
        · rw [hok] at HC
          go_wp2_with fail
          refine HC.out.mono ?_
          rintro e w2 ⟨rfl, L2⟩
          have HL2 := hidP (chain HL1.out L2)
          clear L2
          go_wp2_with fail
          go_roundw
          case rel => exact ⟨k + 1, by omega, by go_num, fun j hj => by
            rcases Nat.lt_or_ge j k with h | h
            · exact HA.out j h
            · obtain rfl : j = k := by omega
              exact hok, HL2.out⟩
          case measure => simp [intOf]; omega
      · go_wp2_with fail
        go_ret
        obtain rfl : k = ls.length := by omega
        exact ⟨ret_bool (Eq.symm ((levB_iff ls).2 ⟨by omega, by omega, HA.out⟩)), L⟩

end Go.Proofs.Ythkaiienfkihmaa
