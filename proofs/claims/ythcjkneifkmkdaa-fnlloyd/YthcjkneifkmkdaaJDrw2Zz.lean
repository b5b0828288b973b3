/-
  The draws of chapter 10: DrawGiven, DrawShifted, DrawStill; the law's own likeLists.
-/
import Derived.Test.YthcjkneifkmkdaaJDrawZz
import Derived.Test.YthcjkneifkmkdaaJSpSZz
import Derived.Test.YthcjkneifkmkdaaMovedSZz
namespace Go.Proofs.Ythcjkneifkmkdaa
open Go Go.RowKit

set_option maxHeartbeats 1000000 in
theorem likeCC (ao ao' : Option Addr) (cap cap' : Nat) (ls : List (List Int)) (w : World) (hv : CView w ao ls) (hv' : CView w ao' ls) (hsm : CSmall ls) :
    Calls Try.prog 13 #[.slice ao ls.length cap, .slice ao' ls.length cap'] w fun e w' => e = .returned (.bool true) ∧ ∃ n, w' = w.drewN n := by
  have hlb : ((ls.length : Int) != (ls.length : Int)) = false := by simp
  have hn := hsm.1
  have HV := hidP hv
  have HV' := hidP hv'
  have HAT := hidP hsm.2
  clear hv hv' hsm
  go_enter Try.func13, Try.ntmps13
  go_wp2_with fail
  go_loopw [5] (fun i wr => ∃ k : Nat, k ≤ ls.length ∧ i = .int .i64 k ∧ ∃ n, wr = w.drewN n) (fun i _ => ls.length - (intOf i).toNat)
  case atStart => exact ⟨0, Nat.zero_le _, rfl, 0, rfl⟩
  case round =>
    obtain ⟨k, hk, rfl, hw⟩ := hrel
    have HW := hidP hw
    clear hw
    by_cases hlt : k < ls.length
    · have v1 : CView wr ao ls := by obtain ⟨n, rfl⟩ := HW.out; exact HV.out.drewN n
      have v2 : CView wr ao' ls := by obtain ⟨n, rfl⟩ := HW.out; exact HV'.out.drewN n
      obtain ⟨b, off, rfl, hb, s1⟩ := v1.seg (by omega)
      obtain ⟨b', off', rfl, hb', s2⟩ := v2.seg (by omega)
      obtain ⟨a, c, c1, va⟩ := s1 k hlt
      obtain ⟨a', c', c2, va'⟩ := s2 k hlt
      have HE := hidP (fun n => likeS a a' c c' (cn ls k) (cn ls k) (wr.drewN n) (va.drewN n) (va'.drewN n) (HAT.out k))
      have hse : decide (cn ls k = cn ls k) = true := by simp
      rw [hse] at HE
      have hi0 : (0 : Int) ≤ (k : Int) := Int.natCast_nonneg _
      have hi1 : (k : Int) < (ls.length : Int) := by omega
      clear va va' v1 v2 s1 s2 hse
      generalize cn ls k = x at *
      go_wp2_with fail
      go_quiet (first | (go_at_call 15; exact Calls.quiet_of (HE.out _)))
      go_wp2_with fail
      go_roundw
      case rel => exact ⟨k + 1, by omega, by go_num, by obtain ⟨n, hn⟩ := HW.out; exact ⟨n + nq, by rw [hn]; simp⟩⟩
      case measure => simp [intOf]; omega
    · go_wp2_with fail
      go_ret
      exact ⟨rfl, HW.out⟩


/-- What a draw of marks and centers hands back. -/
def Drawn (w : World) (a b : Option Addr) (ms : List Mk) (ls : List (List Int)) : Prop := MView w a ms ∧ MSmall ms ∧ CView w b ls ∧ CSmall ls
theorem Drawn.next {w w' : World} {a b : Option Addr} {ms : List Mk} {ls : List (List Int)} (h : Drawn w a b ms ls) (L : Below w.heap.size w w') : Drawn w' a b ms ls := ⟨h.1.next L, h.2.1, h.2.2.1.next L, h.2.2.2⟩

set_option maxRecDepth 100000 in
set_option maxHeartbeats 1000000 in
theorem cDrawG (ao : Option Addr) (n cap : Nat) (w : World) (hv : CodeV w ao n) (hn : n ≤ 4096) :
    Calls Try.prog 34 #[.slice ao n cap] w fun e w' => ∃ a c ms b d ls, e = .returned (.tuple #[.slice a ms.length c, .slice b ls.length d]) ∧ Drawn w' a b ms ls ∧ Below w.heap.size w w' := by
  go_enter Try.func34, Try.ntmps34
  go_wp2_with fail
  refine (cNew ao n cap _ hv hn).mono ?_
  rintro e w1 ⟨rfl, c1, L1⟩
  have hv1 := hv.below (Nat.le_refl _) L1
  go_wp2_with fail
  refine (c10Draw _ ao n cap _ c1 hv1 hn).mono ?_
  rintro e w2 ⟨⟨g, c, ms, b, d, ls, rfl, hm, hch, hcm⟩, c2, g2⟩
  have L2 : Below w.heap.size w w2 := L1.grown g2 L1.size (by intro k hk; cases hk; exact Nat.le_refl _)
  have HE : Hid (Drawn w2 (some ⟨g, 0, none⟩) b ms ls ∧ Below w.heap.size w w2) := ⟨⟨hm.view, hm.small (by omega), hch.view, hcm⟩, L2⟩
  clear hm hch hcm L2 c2 g2 L1 c1 hv1
  go_wp2_with fail
  go_ret2
  exact ⟨some ⟨g, 0, none⟩, c, ms, b, d, ls, rfl, HE.out.1, HE.out.2⟩

set_option maxRecDepth 100000 in
set_option maxHeartbeats 1000000 in
theorem cDrawS (ao : Option Addr) (n cap : Nat) (w : World) (hv : CodeV w ao n) (hn : n ≤ 4096) :
    Calls Try.prog 9 #[.slice ao n cap] w fun e w' => ∃ a c ms b d ls, e = .returned (.tuple #[.slice a ms.length c, .slice b ls.length d]) ∧ Drawn w' a b ms ls ∧ Below w.heap.size w w' := by
  go_enter Try.func9, Try.ntmps9
  go_wp2_with fail
  refine (cDrawG ao n cap _ hv hn).mono ?_
  rintro e w1 ⟨a, c, ms, b, d, ls, rfl, hm, L1⟩
  have HE := hidP (And.intro hm L1)
  clear hm L1
  go_wp2_with fail
  go_ret2
  exact ⟨a, c, ms, b, d, ls, rfl, HE.out.1, HE.out.2⟩

set_option maxRecDepth 100000 in
set_option maxHeartbeats 2000000 in
theorem cDrawT (ao : Option Addr) (n cap : Nat) (w : World) (hv : CodeV w ao n) (hn : n ≤ 4096) :
    Calls Try.prog 12 #[.slice ao n cap] w fun e w' => ∃ a c ms b d ls, e = .returned (.tuple #[.slice a ms.length c, .slice b ls.length d]) ∧ Drawn w' a b ms ls ∧ Below w.heap.size w w' := by
  go_enter Try.func12, Try.ntmps12
  go_wp2_with fail
  refine (cNew ao n cap _ hv hn).mono ?_
  rintro e w1 ⟨rfl, c1, L1⟩
  have hv1 := hv.below (Nat.le_refl _) L1
  go_wp2_with fail
  refine (c10Draw _ ao n cap _ c1 hv1 hn).mono ?_
  rintro e w2 ⟨⟨g, c, ms, b, d, ls, rfl, hm, hch, hcm⟩, c2, g2⟩
  have L2 : Below w.heap.size w w2 := L1.grown g2 L1.size (by intro k hk; cases hk; exact Nat.le_refl _)
  have hv2 := hv1.grown c1 g2
  have hq := c1.lt
  have HB := hidP (cBelow _ ao n cap 5 w2 c2 hv2 hn (by omega) (by omega))
  have HK := hidP (And.intro hm (And.intro hch L2))
  clear hm hch L2 c2 hv2 g2 c1 hv1 L1
  go_wp2_with fail
  refine HB.out.mono ?_
  rintro e w3 ⟨⟨y, y0, y1, rfl⟩, c3, g3⟩
  have P3 : Hid (Drawn w3 (some ⟨g, 0, none⟩) b ms ls ∧ Below w.heap.size w w3) := by
    obtain ⟨hm, hch, L2⟩ := HK.out
    have hm3 := hm.kept g3 (by intro k hk; cases hk; exact hq)
    exact ⟨⟨hm3.view, hm3.small (by omega), (hch.kept g3 (by intro k hk; cases hk; exact hq)).view, hcm⟩, L2.grown g3 L2.size (by intro k hk; cases hk; exact Nat.le_refl _)⟩
  clear HK HB c3 g3 hcm
  go_wp2_with fail
  go_loopw [6, 7] (fun v z wr => ∃ (k : Int) (b : Option Addr) (d : Nat) (ls : List (List Int)), 0 ≤ k ∧ k ≤ 4 ∧ z = .int .i64 k ∧ v = .slice b ls.length d ∧ Drawn wr (some ⟨g, 0, none⟩) b ms ls ∧ Below w.heap.size w wr) (fun _ z _ => (intOf z).toNat)
  case atStart => exact ⟨y, b, d, ls, y0, by omega, rfl, rfl, P3.out.1, P3.out.2⟩
  case round =>
    obtain ⟨k, b, d, ls, hk0, hk4, rfl, rfl, hD, L⟩ := hrel
    by_cases hkp : k > 0
    · have HS := hidP (sShift (some ⟨g, 0, none⟩) b c d ms ls wr hD.1 hD.2.2.1 hD.2.1 hD.2.2.2)
      have HP := hidP (And.intro hD L)
      clear hD L
      go_wp2_with fail
      refine HS.out.mono ?_
      rintro e w4 ⟨gx, cx, rs, rfl, hnm, hlm, L4⟩
      by_cases hpos : 0 < rs.length
      · have hposI : (rs.length : Int) > 0 := by omega
        have HE : Hid (Drawn w4 (some ⟨g, 0, none⟩) (some ⟨gx, 0, none⟩) ms (nums rs) ∧ Below w.heap.size w w4 ∧ (nums rs).length = rs.length) := by
          obtain ⟨hD, L⟩ := HP.out
          have hs : (nums rs).length ≤ 9 ∧ ∀ l ∈ nums rs, l.length ≤ 6 := by
            rw [hnm]
            rcases hc : ctrsB ms ls with _ | _
            · rw [shiftL_no hc]; simp
            · refine ⟨by rw [shiftL_length hc]; have := (ctrsB_of hc).2.1; omega, fun l hl => ?_⟩
              rw [shiftL_in hc] at hl
              obtain ⟨i, hi, rfl⟩ := List.mem_map.1 hl
              rw [shiftP_length]
              have := (okB_len (ctrs_len hc (List.mem_range.1 hi)).1).2
              omega
          exact ⟨⟨hD.1.next L4, hD.2.1, hlm.view.cview, small_of hs.1 hs.2⟩, chain L L4, nums_length rs⟩
        clear hnm hlm L4 hpos
        go_wp2_with fail
        go_roundw
        case rel => exact ⟨k - 1, some ⟨gx, 0, none⟩, cx, nums rs, by omega, by omega, by go_num, by rw [HE.out.2.2], HE.out.1, HE.out.2.1⟩
        case measure => simp [intOf]; omega
      · have hposI : ¬ (rs.length : Int) > 0 := by omega
        have HE : Hid (Drawn w4 (some ⟨g, 0, none⟩) b ms ls ∧ Below w.heap.size w w4) := ⟨HP.out.1.next L4, chain HP.out.2 L4⟩
        clear hnm hlm L4 hpos
        go_wp2_with fail
        go_roundw
        case rel => exact ⟨k - 1, b, d, ls, by omega, by omega, by go_num, rfl, HE.out.1, HE.out.2⟩
        case measure => simp [intOf]; omega
    · have HE := hidP (And.intro hD L)
      clear hD L
      go_wp2_with fail
      go_ret2
      exact ⟨some ⟨g, 0, none⟩, c, ms, b, d, ls, rfl, HE.out.1, HE.out.2⟩

end Go.Proofs.Ythcjkneifkmkdaa
