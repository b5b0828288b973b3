/-
  The laws' own helpers: likeHits (are two alike), truly (each hit is a mark's true one).
-/
import Derived.Test.YtkehcgnflpbhfaaHCopy
import Derived.Laws.StructEq
import Derived.Test.YtkehcgnflpbhfaaMOk3
namespace Go.Proofs.Ytkehcgnflpbhfaa
open Go Go.RowKit

theorem Try.held35 : Try.prog.stoodInHeld 35 = false := by kernel_rfl
theorem Try.guard35 : Try.prog.eqGuardType Try.prog.depth 35 = false := by kernel_rfl
theorem Try.fields35 : Try.prog.underlying 35 = some (.struct (Try.prog.fieldsOf 35)) := by simp [Program.fieldsOf, Try.underlying35]

theorem hit_neq (a b : Ht) (w : World) : (binOp .neq 35 (.agg #[.int .i64 a.1, .int .i64 a.2]) (.agg #[.int .i64 b.1, .int .i64 b.2])).run Try.prog w = .ok (.bool (!decide (a = b))) w := by
  rw [run_neq_struct, run_equalIn_agg _ _ _ _ _ Try.fields35 Try.held35]
  simp [Program.fieldsOf, Try.underlying35, Op.eqFields, go_sem]
  by_cases h1 : a.1 = b.1
  · by_cases h2 : a.2 = b.2
    · have e : a = b := Prod.ext h1 h2
      simp [e]
    · have e : ¬ a = b := fun e => h2 (by rw [e])
      simp [h1, h2, e]
  · have e : ¬ a = b := fun e => h1 (by rw [e])
    simp [h1, e]

set_option maxHeartbeats 400000 in
theorem likeHS_ne (ao ao' : Option Addr) (n n' cap cap' : Nat) (w : World) (h : n ≠ n') :
    Calls Try.prog 15 #[.slice ao n cap, .slice ao' n' cap'] w fun e w' => e = .returned (.bool false) ∧ w' = w := by
  have hlb : ((n : Int) != (n' : Int)) = true := by simp; omega
  go_enter Try.func15, Try.ntmps15
  go_wp2
  go_ret
  exact ⟨rfl, rfl⟩

set_option maxHeartbeats 1000000 in
theorem likeHS_len (ao ao' : Option Addr) (cap cap' : Nat) (ms ns : List Ht) (w : World) (hv : HView w ao ms) (hv' : HView w ao' ns) (hn : ms.length ≤ 4194304) (hl : ms.length = ns.length) :
    Calls Try.prog 15 #[.slice ao ms.length cap, .slice ao' ns.length cap'] w fun e w' => e = .returned (.bool (decide (ms = ns))) ∧ ∃ n, w' = w.drewN n := by
  have hlb : ((ms.length : Int) != (ns.length : Int)) = false := by simp [hl]
  have HL : Hid (ms.length = ns.length) := hl
  have hn' : ns.length ≤ 4194304 := by omega
  clear hl
  go_enter Try.func15, Try.ntmps15
  go_wp2
  go_loopw [5] (fun i wr => ∃ k : Nat, k ≤ ms.length ∧ i = .int .i64 k ∧ (∀ j, j < k → hnth ms j = hnth ns j) ∧ ∃ n, wr = w.drewN n) (fun i _ => ms.length - (intOf i).toNat)
  case atStart => exact ⟨0, Nat.zero_le _, rfl, fun j hj => by omega, 0, rfl⟩
  case round =>
    obtain ⟨k, hk, rfl, hall, hw⟩ := hrel
    have HA := hidP hall
    have HW : Hid (∃ n, wr = w.drewN n) := hw
    clear hall hw
    by_cases hlt : k < ms.length
    · have hlt' : k < ns.length := by have := HL.out; omega
      have hvw : HView wr ao ms := by obtain ⟨n, rfl⟩ := HW.out; exact hv
      have hvw' : HView wr ao' ns := by obtain ⟨n, rfl⟩ := HW.out; exact hv'
      obtain ⟨b, off, rfl, hb, hs⟩ := hvw.seg (by omega)
      obtain ⟨b', off', rfl, hb', hs'⟩ := hvw'.seg (by omega)
      obtain ⟨hc0, hc1⟩ := hs k hlt
      obtain ⟨hd0, hd1⟩ := hs' k hlt'
      have hi0 : (0 : Int) ≤ (k : Int) := Int.natCast_nonneg _
      have hi1 : (k : Int) < (ms.length : Int) := by omega
      have hi2 : (k : Int) < (ns.length : Int) := by omega
      have hq := fun w => hit_neq (hnth ms k) (hnth ns k) w
      have hgd := Try.guard35
      clear hs hs' hvw hvw'
      by_cases he : hnth ms k = hnth ns k
      · have HE := hidP he
        have hdd : (!decide (hnth ms k = hnth ns k)) = false := by simp [he]
        rw [hdd] at hq
        clear he hdd
        go_wp2
        go_quiet (fail)
        go_wp2
        go_roundw
        case rel => exact ⟨k + 1, by omega, by go_num, fun j hj => by
          rcases Nat.lt_or_ge j k with h | h
          · exact HA.out j h
          · rw [show j = k by omega]; exact HE.out, by obtain ⟨n, hn⟩ := HW.out; exact ⟨n + nq, by rw [hn]; simp⟩⟩
        case measure => simp [intOf]; omega
      · have HE := hidP he
        have hdd : (!decide (hnth ms k = hnth ns k)) = true := by simp [he]
        rw [hdd] at hq
        clear he hdd
        go_wp2
        go_quiet (fail)
        go_wp2
        go_ret
        exact ⟨ret_bool (Eq.symm (decide_eq_false (fun h => HE.out (by rw [h])))), by obtain ⟨n, hn⟩ := HW.out; exact ⟨n + nq, by rw [hn]; simp⟩⟩
    · go_wp2
      go_ret
      obtain rfl : k = ms.length := by omega
      exact ⟨ret_bool (Eq.symm (decide_eq_true (hs_eq HL.out HA.out))), HW.out⟩

/-- likeHits: are two alike. -/
theorem likeHS (ao ao' : Option Addr) (cap cap' : Nat) (ms ns : List Ht) (w : World) (hv : HView w ao ms) (hv' : HView w ao' ns) (hn : ms.length ≤ 4194304) :
    Calls Try.prog 15 #[.slice ao ms.length cap, .slice ao' ns.length cap'] w fun e w' => e = .returned (.bool (decide (ms = ns))) ∧ ∃ n, w' = w.drewN n := by
  by_cases hl : ms.length = ns.length
  · exact likeHS_len ao ao' cap cap' ms ns w hv hv' hn hl
  · refine (likeHS_ne ao ao' ms.length ns.length cap cap' w hl).mono ?_
    rintro e w' ⟨rfl, rfl⟩
    exact ⟨ret_bool (Eq.symm (decide_eq_false (fun h => hl (by rw [h])))), 0, rfl⟩

def hitAny (ms : List Mk) (q : List Int) (x : Ht) : Nat → Bool
  | 0 => false
  | k + 1 => hitAny ms q x k || (decide (mid ms k = x.1) && decide (farV (mat ms k) q = x.2))
theorem hitAny_of {ms : List Mk} {q : List Int} {x : Ht} {n k : Nat} (hn : n < k) (h1 : mid ms n = x.1) (h2 : farV (mat ms n) q = x.2) : hitAny ms q x k = true := by
  induction k with
  | zero => omega
  | succ k ih =>
    unfold hitAny
    rcases Nat.lt_or_ge n k with h | h
    · rw [ih h]; rfl
    · rw [show n = k by omega] at h1 h2; simp [h1, h2]
theorem hitAny_yes {ms : List Mk} {q : List Int} {x : Ht} {k : Nat} (h : hitAny ms q x k = true) : hitAny ms q x (k + 1) = true := by simp [hitAny, h]
theorem hitAny_no {ms : List Mk} {q : List Int} {x : Ht} {k : Nat} (h : hitAny ms q x k = false) (h1 : ¬ mid ms k = x.1) : hitAny ms q x (k + 1) = false := by simp [hitAny, h, h1]
theorem hitAny_far {ms : List Mk} {q : List Int} {x : Ht} {k : Nat} (h : hitAny ms q x k = false) (h1 : mid ms k = x.1) : hitAny ms q x (k + 1) = decide (farV (mat ms k) q = x.2) := by simp [hitAny, h, h1]

set_option maxRecDepth 100000 in
set_option maxHeartbeats 2000000 in
theorem trulyS (ah am aq : Option Addr) (ch cm cq : Nat) (hs : List Ht) (ms : List Mk) (q : List Int) (w : World) (hv : HView w ah hs) (hm : MView w am ms) (hq : View w aq q) (hn : hs.length ≤ 1048576) (hsm : MSmall ms) (hql : q.length ≤ 1048576)
    (htrue : ∀ i, i < hs.length → ∃ n, n < ms.length ∧ mid ms n = (hnth hs i).1 ∧ farV (mat ms n) q = (hnth hs i).2) :
    Calls Try.prog 20 #[.slice ah hs.length ch, .slice am ms.length cm, .slice aq q.length cq] w fun e w' => e = .returned (.bool true) ∧ ∃ n, w' = w.drewN n := by
  obtain ⟨hn2, hat⟩ := hsm
  have HT := hidP htrue
  clear htrue
  go_enter Try.func20, Try.ntmps20
  go_wp2_with fail
  go_loopw [7] (fun i wr => ∃ k : Nat, k ≤ hs.length ∧ i = .int .i64 k ∧ ∃ n, wr = w.drewN n) (fun i _ => hs.length - (intOf i).toNat)
  case atStart => exact ⟨0, Nat.zero_le _, rfl, 0, rfl⟩
  case round =>
    obtain ⟨i, hi, rfl, hw⟩ := hrel
    have HW : Hid (∃ n, wr = w.drewN n) := hw
    clear hw
    by_cases hlt : i < hs.length
    · have HALL : Hid (hitAny ms q (hnth hs i) ms.length = true) := by
        obtain ⟨n, h1, h2, h3⟩ := HT.out i hlt
        exact hitAny_of h1 h2 h3
      obtain ⟨b, off, rfl, hb, hseg⟩ := hv.seg (by omega)
      go_wp2_with fail
      go_loopw [8, 9] (fun o j wr => ∃ k : Nat, k ≤ ms.length ∧ j = .int .i64 k ∧ o = .bool (hitAny ms q (hnth hs i) k) ∧ ∃ n, wr = w.drewN n) (fun _ j _ => ms.length - (intOf j).toNat)
      case atStart => exact ⟨0, Nat.zero_le _, rfl, rfl, HW.out⟩
      case round =>
        clear HW
        obtain ⟨k, hk, rfl, rfl, hw⟩ := hrel
        have HW : Hid (∃ n, wr = w.drewN n) := hw
        clear hw
        by_cases hlt2 : k < ms.length
        · have hmw : MView wr am ms := by obtain ⟨n, rfl⟩ := HW.out; exact hm
          have hsw : HSeg wr b off hs := by obtain ⟨n, rfl⟩ := HW.out; exact hseg
          have hqw : View wr aq q := by obtain ⟨n, rfl⟩ := HW.out; exact hq
          obtain ⟨bm, offm, rfl, hbm, hmseg⟩ := MSeg.seg hmw (by omega)
          obtain ⟨hc0, ae, ce, hc1, hve⟩ := hmseg.at hlt2
          obtain ⟨hd0, hd1⟩ := hsw i hlt
          have hi0 : (0 : Int) ≤ (i : Int) := Int.natCast_nonneg _
          have hi1 : (i : Int) < (hs.length : Int) := by omega
          have hj0 : (0 : Int) ≤ (k : Int) := Int.natCast_nonneg _
          have hj1 : (k : Int) < (ms.length : Int) := by omega
          have hnk := hat k
          have HE := hidP hve
          have HQ := hidP hqw
          clear hmw hsw hqw hmseg hve
          rcases hb0 : hitAny ms q (hnth hs i) k with _ | _
          · by_cases he : mid ms k = (hnth hs i).1
            · have hbe : (mid ms k == (hnth hs i).1) = true := by simp [he]
              have HNX := hidP (hitAny_far hb0 he)
              clear he
              by_cases hf : farV (mat ms k) q = (hnth hs i).2
              · have hbf : (farV (mat ms k) q == (hnth hs i).2) = true := by simp [hf]
                have HD := hidP (decide_eq_true hf)
                clear hf
                go_wp2_with fail
                go_quiet ((go_at_call 21; exact Calls.quiet_of (sFar ae aq ce cq (mat ms k) q _ (HE.out.drewN _) (HQ.out.drewN _) hnk hql)))
                go_wp2_with fail
                go_roundw
                case rel => exact ⟨k + 1, by omega, by go_num, by rw [HNX.out, HD.out], by obtain ⟨n, hn⟩ := HW.out; exact ⟨n + nq, by rw [hn]; simp⟩⟩
                case measure => simp [intOf]; omega
              · have hbf : (farV (mat ms k) q == (hnth hs i).2) = false := by simp [hf]
                have HD := hidP (decide_eq_false hf)
                clear hf
                go_wp2_with fail
                go_quiet ((go_at_call 21; exact Calls.quiet_of (sFar ae aq ce cq (mat ms k) q _ (HE.out.drewN _) (HQ.out.drewN _) hnk hql)))
                go_wp2_with fail
                go_roundw
                case rel => exact ⟨k + 1, by omega, by go_num, by rw [HNX.out, HD.out], by obtain ⟨n, hn⟩ := HW.out; exact ⟨n + nq, by rw [hn]; simp⟩⟩
                case measure => simp [intOf]; omega
            · have hbe : (mid ms k == (hnth hs i).1) = false := by simp [he]
              have HNX := hidP (hitAny_no hb0 he)
              clear he
              go_wp2_with fail
              go_quiet ((go_at_call 21; exact Calls.quiet_of (sFar ae aq ce cq (mat ms k) q _ (HE.out.drewN _) (HQ.out.drewN _) hnk hql)))
              go_wp2_with fail
              go_roundw
              case rel => exact ⟨k + 1, by omega, by go_num, by rw [HNX.out], by obtain ⟨n, hn⟩ := HW.out; exact ⟨n + nq, by rw [hn]; simp⟩⟩
              case measure => simp [intOf]; omega
          · have HNX := hidP (hitAny_yes hb0)
            go_wp2_with fail
            go_quiet ((go_at_call 21; exact Calls.quiet_of (sFar ae aq ce cq (mat ms k) q _ (HE.out.drewN _) (HQ.out.drewN _) hnk hql)))
            go_wp2_with fail
            go_roundw
            case rel => exact ⟨k + 1, by omega, by go_num, by rw [HNX.out], by obtain ⟨n, hn⟩ := HW.out; exact ⟨n + nq, by rw [hn]; simp⟩⟩
            case measure => simp [intOf]; omega
        · obtain rfl : k = ms.length := by omega
          rw [HALL.out]
          go_wp2_with fail
          go_roundw
          case rel => exact ⟨i + 1, by omega, by go_num, HW.out⟩
          case measure => simp [intOf]; omega
    · go_wp2_with fail
      go_ret
      exact ⟨rfl, HW.out⟩

end Go.Proofs.Ytkehcgnflpbhfaa
