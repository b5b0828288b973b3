/-
  The program's centersOk and nearestOf.
-/
import Derived.Test.YthcjkneifkmkdaaJRwZz
import Derived.Test.YthcjkneifkmkdaaKSuitZz
import Derived.Test.YthcjkneifkmkdaaCopyZz
namespace Go.Proofs.Ythcjkneifkmkdaa
open Go Go.RowKit

set_option maxRecDepth 100000 in
set_option maxHeartbeats 1000000 in
theorem iCtr (ao ao' : Option Addr) (cap cap' : Nat) (ms : List Mk) (cs : List (List Int)) (w : World) (hv : MView w ao ms) (hv' : CView w ao' cs) (hsm : MSmall ms) (hcm : CSmall cs) :
    Calls Try.prog 35 #[.slice ao' cs.length cap', .slice ao ms.length cap] w fun e w' => e = .returned (.bool (ctrsB ms cs)) ∧ Below w.heap.size w w' := by
  have hn' := hcm.1
  by_cases h1 : 1 ≤ cs.length
  · by_cases h8 : cs.length ≤ 8
    · have hq1 : ¬ ((cs.length : Int) < 1) := by omega
      have hq8 : ¬ ((cs.length : Int) > 8) := by omega
      obtain ⟨b', off', rfl, hb', hs'⟩ := hv'.seg (by omega)
      have HS := hidP hs'
      have HAT := hidP hcm.2
      obtain ⟨a0, c0, e0, va0⟩ := hs' 0 (by omega)
      rw [Nat.add_zero] at e0
      have HV0 := hidP va0
      have HSU := hidP (iSuits ao a0 cap c0 ms (cn cs 0) w hv va0 hsm (hcm.2 0))
      have hpos : (0 : Int) < (cs.length : Int) := by omega
      have hpos2 : 0 < cs.length := by omega
      have HP : Hid (1 ≤ cs.length ∧ cs.length ≤ 8) := ⟨h1, h8⟩
      clear hs' hv hv' hcm h1 h8 va0
      go_enter Try.func35, Try.ntmps35
      go_wp2_with fail
      go_loop [17] (fun i => ∃ k : Nat, k ≤ cs.length ∧ i = .int .i64 k ∧ (∀ j, j < k → twoB (cn cs j) (cn cs 0) = true)) (fun i => cs.length - (intOf i).toNat)
      case atStart => exact ⟨0, Nat.zero_le _, rfl, fun j hj => by omega⟩
      case round =>
        obtain ⟨k, hk, rfl, hall⟩ := hrel
        have HA := hidP hall
        clear hall
        by_cases hlt : k < cs.length
        · obtain ⟨a, c, e1, va⟩ := HS.out k hlt
          have HE := hidP (pPairs a a0 c c0 (cn cs k) (cn cs 0) w va HV0.out (HAT.out k) (HAT.out 0))
          have hi0 : (0 : Int) ≤ (k : Int) := Int.natCast_nonneg _
          have hi1 : (k : Int) < (cs.length : Int) := by omega
          clear va
          rcases ht : twoB (cn cs k) (cn cs 0) with _ | _
          · rw [ht] at HE
            have HB := hidP (ctrsB_pair (ms := ms) (pairB_out hlt ht))
            clear ht
            go_wp2_with fail
            refine HE.out.mono ?_
            rintro e w1 ⟨rfl, rfl⟩
            go_wp2_with fail
            go_ret
            exact ⟨ret_bool HB.out.symm, Below.refl _ _⟩
          · rw [ht] at HE
            have HT := hidP ht
            clear ht
            go_wp2_with fail
            refine HE.out.mono ?_
            rintro e w1 ⟨rfl, rfl⟩
            go_wp2_with fail
            go_round
            case rel => exact ⟨k + 1, by omega, by go_num, fun j hj => by
              rcases Nat.lt_or_ge j k with h | h
              · exact HA.out j h
              · rw [show j = k by omega]; exact HT.out⟩
            case measure => simp [intOf]; omega
        · obtain rfl : k = cs.length := by omega
          have HPB := hidP (pairB_mk HA.out)
          have HB : Hid (ctrsB ms cs = toldB ms (cn cs 0)) := by show _ = _; simp [ctrsB, HP.out.1, HP.out.2, HPB.out]
          go_wp2_with fail
          refine HSU.out.mono ?_
          rintro e w1 ⟨rfl, L1⟩
          go_wp2_with fail
          go_ret
          exact ⟨ret_bool HB.out.symm, L1⟩
    · have HV := hidP (ctrsB_many (ms := ms) h8)
      have hq1 : ¬ ((cs.length : Int) < 1) := by omega
      have hq8 : ((cs.length : Int) > 8) := by omega
      clear h1 h8
      go_enter Try.func35, Try.ntmps35
      go_wp2_with fail
      go_ret
      exact ⟨ret_bool HV.out.symm, Below.refl _ _⟩
  · have HV := hidP (ctrsB_few (ms := ms) h1)
    have hq1 : ((cs.length : Int) < 1) := by omega
    clear h1
    go_enter Try.func35, Try.ntmps35
    go_wp2_with fail
    go_ret
    exact ⟨ret_bool HV.out.symm, Below.refl _ _⟩

/-- Of a right point and right centers. -/
theorem pFarV (a a' : Option Addr) (c c' : Nat) (xs ys : List Int) (w : World) (hv : View w a xs) (hv' : View w a' ys) (ht : twoB xs ys = true) :
    Calls Try.prog 56 #[.slice a xs.length c, .slice a' ys.length c'] w fun e w' => e = .returned (.int .i64 (farV xs ys)) ∧ Below w.heap.size w w' := by
  obtain ⟨ha, hb, hl⟩ := twoB_of ht
  have h4 := okB_len ha
  obtain ⟨b, off, rfl, hbs, hs⟩ : ∃ b off, a = some ⟨b, off, none⟩ ∧ b < w.heap.size ∧ Seg w b off xs := by
    rcases hv with rfl | h
    · simp at h4
    · exact h
  obtain ⟨b', off', rfl, hbs', hs'⟩ : ∃ b off, a' = some ⟨b, off, none⟩ ∧ b < w.heap.size ∧ Seg w b off ys := by
    rcases hv' with rfl | h
    · simp at hl; rw [hl] at h4; simp at h4
    · exact h
  have h := pFar b off c b' off' c' xs ys w hs hs' hbs hbs' ht
  rw [show farV xs ys = sumTo (sqF xs ys) xs.length by rw [farV, if_pos ht]]
  exact h

set_option maxRecDepth 100000 in
set_option maxHeartbeats 1000000 in
theorem iNearest (ao ao' : Option Addr) (cap cap' : Nat) (p : List Int) (cs : List (List Int)) (w : World) (hv : View w ao p) (hv' : CView w ao' cs) (h1 : 1 ≤ cs.length) (h8 : cs.length ≤ 8) (ht : ∀ i, i < cs.length → twoB p (cn cs i) = true) :
    Calls Try.prog 37 #[.slice ao' cs.length cap', .slice ao p.length cap] w fun e w' => e = .returned (.int .i64 (givI cs p cs.length : Nat)) ∧ Below w.heap.size w w' := by
  obtain ⟨b', off', rfl, hb', hs'⟩ := hv'.seg (by omega)
  obtain ⟨a0, c0, e0, va0⟩ := hs' 0 (by omega)
  rw [Nat.add_zero] at e0
  have HF0 := hidP (pFarV ao a0 cap c0 p (cn cs 0) w hv va0 (ht 0 (by omega)))
  have HT := hidP ht
  have HS := hidP hs'
  have HV := hidP hv
  have hpos : (0 : Int) < (cs.length : Int) := by omega
  have hpos2 : 0 < cs.length := by omega
  clear hv hv' hs' va0 ht
  go_enter Try.func37, Try.ntmps37
  go_wp2_with fail
  refine HF0.out.mono ?_
  rintro e w1 ⟨rfl, L1⟩
  have HL1 := hidP L1
  clear L1 HF0
  go_wp2_with fail
  go_loopw [5, 6, 17] (fun ne le i wr => ∃ k : Nat, k ≤ cs.length ∧ i = .int .i64 k ∧ ne = .int .i64 (givI cs p k : Nat) ∧ le = .int .i64 (farV p (cn cs (givI cs p k))) ∧ Below w.heap.size w wr) (fun _ _ i _ => cs.length - (intOf i).toNat)
  case atStart => exact ⟨0, Nat.zero_le _, rfl, rfl, rfl, HL1.out⟩
  case round =>
    obtain ⟨k, hk, rfl, rfl, rfl, L⟩ := hrel
    by_cases hlt : k < cs.length
    · obtain ⟨a1, c1, e1, va1⟩ := (HS.out.below hb' (Nat.le_refl _) L) k hlt
      have HF := hidP (pFarV ao a1 cap c1 p (cn cs k) wr (HV.out.next L) va1 (HT.out k hlt))
      have HY : Hid (farV p (cn cs k) < farV p (cn cs (givI cs p k)) → givI cs p (k + 1) = k) := fun h => by simp only [givI]; rw [if_pos h]
      have HO : Hid (¬ farV p (cn cs k) < farV p (cn cs (givI cs p k)) → givI cs p (k + 1) = givI cs p k) := fun h => by simp only [givI]; rw [if_neg h]
      have hi0 : (0 : Int) ≤ (k : Int) := Int.natCast_nonneg _
      have hi1 : (k : Int) < (cs.length : Int) := by omega
      have HL := hidP L
      generalize hbb : givI cs p k = bb at *
      generalize hy : farV p (cn cs bb) = y at *
      generalize hx : farV p (cn cs k) = x at *
      have HX := hidP hx
      have HYY := hidP hy
      clear va1 L hbb hy hx
      by_cases htt : x < y
      · go_wp2_with fail
        refine HF.out.mono ?_
        rintro e w2 ⟨rfl, L2⟩
        have HL2 := hidP (chain HL.out L2)
        clear L2
        go_wp2_with fail
        go_roundw
        case rel => exact ⟨k + 1, by omega, by go_num, by rw [HY.out htt], by rw [HY.out htt, HX.out], HL2.out⟩
        case measure => simp [intOf]; omega
      · go_wp2_with fail
        refine HF.out.mono ?_
        rintro e w2 ⟨rfl, L2⟩
        have HL2 := hidP (chain HL.out L2)
        clear L2
        go_wp2_with fail
        go_roundw
        case rel => exact ⟨k + 1, by omega, by go_num, by rw [HO.out htt], by rw [HO.out htt, HYY.out], HL2.out⟩
        case measure => simp [intOf]; omega
    · obtain rfl : k = cs.length := by omega
      go_wp2_with fail
      go_ret
      exact ⟨rfl, L⟩

end Go.Proofs.Ythcjkneifkmkdaa
