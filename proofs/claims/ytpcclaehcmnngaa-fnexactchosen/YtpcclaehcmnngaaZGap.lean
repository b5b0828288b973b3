/-
  The program's nearestGap and radiusAbout, of one center or more.
-/
import Derived.Test.YtpcclaehcmnngaaMid
import Derived.Deep.RegionHeld3
namespace Go.Proofs.Ytpcclaehcmnngaa
open Go Go.RowKit

def gapTo (kd : Int) (cs : List Mk) (p : List Int) : Nat → Int
  | 0 => betV (mat cs 0) p kd
  | k + 1 => min (gapTo kd cs p k) (betV (mat cs (k + 1)) p kd)
def gapV (kd : Int) (cs : List Mk) (p : List Int) : Int := gapTo kd cs p (cs.length - 1)
def zGapF (kd : Int) (cs ms : List Mk) (i : Nat) : Int := gapV kd cs (mat ms i)
theorem gapTo_bd (kd : Int) (cs : List Mk) (p : List Int) (k : Nat) : -1 ≤ gapTo kd cs p k ∧ gapTo kd cs p k ≤ 16000000 := by
  induction k with
  | zero => exact betV_le _ _ _
  | succ k ih => have := betV_le (mat cs (k + 1)) p kd; simp only [gapTo]; omega

set_option maxRecDepth 100000 in
set_option maxHeartbeats 2000000 in
theorem iGap (ac ap : Option Addr) (cc cp : Nat) (cs : List Mk) (m : Mk) (kd : Int) (w : World) (hv : MView w ac cs) (hp : View w ap m.2) (h0 : 0 < cs.length) (hcap : cs.length ≤ cc) (hsm : MSmall cs) (hpl : m.2.length ≤ 1048576) :
    Calls Try.prog 57 #[.slice ac cs.length cc, .agg #[.int .i64 m.1, .slice ap m.2.length cp], .int .i64 kd] w fun e w' => e = .returned (.int .i64 (gapV kd cs m.2)) ∧ Below w.heap.size w w' := by
  obtain ⟨hn, hat⟩ := hsm
  obtain ⟨b, off, rfl, hb, hs⟩ := MSeg.seg hv h0
  obtain ⟨W0, hW0⟩ : ∃ W0, W0 = w.alloc (.cells #[.int .i64 m.1, .slice ap m.2.length cp] 55) := ⟨_, rfl⟩
  have L0 : Below w.heap.size w W0 := by rw [hW0]; exact (Below.refl _ _).alloc (Nat.le_refl _) _
  have c1 : W0.cell? ⟨w.heap.size, 1, none⟩ = some (.slice ap m.2.length cp) := by rw [hW0]; go_simp
  have hsz : w.heap.size < W0.heap.size := by rw [hW0]; simp
  have HS := hidP (hs.below hb (Nat.le_refl _) L0)
  have HP := hidP (View.next hp L0)
  have HL0 := hidP L0
  have HV : Hid (gapV kd cs m.2 = gapTo kd cs m.2 (cs.length - 1)) := rfl
  obtain ⟨-, ae, ce, hc1, hve⟩ := HS.out.at (i := 0) h0
  rw [Nat.zero_mul, Nat.add_zero] at hc1
  have hbw : b < W0.heap.size := by omega
  have hi1 : (0 : Int) < (cs.length : Int) := by omega
  have hi3 : cs ≠ [] := by intro h; rw [h] at h0; simp at h0
  have HC := hidP (iBet ae ap ce cp (mat cs 0) m.2 kd W0.drew hve.drew HP.out.drew (hat 0) hpl)
  have H1 : Hid (gapTo kd cs m.2 0 = betV (mat cs 0) m.2 kd) := rfl
  clear hv hp hs L0 hve
  go_enter Try.func57, Try.ntmps57
  go_wp2_with fail
  rw [← hW0]
  clear hW0
  go_region_held3 (fun w' => w'.cell? ⟨b, off + 1, none⟩ = some (.slice ae (mat cs 0).length ce) ∧ w'.cell? ⟨w.heap.size, 1, none⟩ = some (.slice ap m.2.length cp))
    (first
      | go_keep
      | (refine ⟨(L3.cell (p := ⟨b, off + 1, none⟩) hbw).trans hc1, (L3.cell (p := ⟨w.heap.size, 1, none⟩) hsz).trans c1⟩))
    (first
      | (go_at_call 58; refine HC.out.mono ?_; rintro e w3 ⟨rfl, L3⟩))
  have L4 : Below W0.heap.size W0 w3 := (Below.refl _ _).drew.trans L3
  have HLF := hidP L4
  clear L3 HC hc1 L4
  go_wp2_with fail
  all_goals
    go_loopw [7, 21] (fun s i wr => ∃ k : Nat, k ≤ cs.length - 1 ∧ i = .int .i64 k ∧ s = .int .i64 (gapTo kd cs m.2 k) ∧ Below W0.heap.size W0 wr) (fun _ i _ => cs.length - (intOf i).toNat)
    case atStart => exact ⟨0, Nat.zero_le _, rfl, by rw [H1.out], HLF.out⟩
    case round =>
      obtain ⟨k, hk, rfl, rfl, L⟩ := hrel
      by_cases hlt : k < cs.length - 1
      · first
        | (exfalso; omega)
        | (
            obtain ⟨hc0, ae, ce, hc1, hve⟩ := (HS.out.below hbw (Nat.le_refl _) L).at (i := k + 1) (by omega)
            rw [show off + (k + 1) * 2 = off + 2 + k * 2 by omega] at hc0 hc1
            have hd := (L.cell (p := ⟨w.heap.size, 1, none⟩) hsz).trans c1
            have hz := L.size
            have hlt0 : w.heap.size < wr.heap.size := by omega
            have L2 : Below wr.heap.size wr (wr.alloc (.cells #[.int .i64 (mid cs (k + 1)), .slice ae (mat cs (k + 1)).length ce] 55)) := (Below.refl _ _).alloc (Nat.le_refl _) _
            have HC := hidP (iBet ae ap ce cp (mat cs (k + 1)) m.2 kd _ (View.next hve L2) (View.next (View.next HP.out L) L2) (hat (k + 1)) hpl)
            have HL := hidP (below_two L L2)
            have hbd := gapTo_bd kd cs m.2 k
            have HN : Hid (gapTo kd cs m.2 (k + 1) = min (gapTo kd cs m.2 k) (betV (mat cs (k + 1)) m.2 kd)) := rfl
            clear L hve L2
            go_wp2_with fail
            refine HC.out.mono ?_
            rintro e w4 ⟨rfl, L3⟩
            have LF2 := hidP (below_two HL.out L3)
            clear L3
            go_wp2_with fail
            all_goals
              go_roundw
              case rel => exact ⟨k + 1, by omega, by go_num, by rw [HN.out]; congr 1; omega, LF2.out⟩
              case measure => simp [intOf]; omega)
      · go_wp2_with fail
        go_ret
        have hk1 : k = cs.length - 1 := by omega
        exact ⟨ret_int (by rw [hk1]; exact HV.out.symm), below_two HL0.out L⟩

theorem zGap_max (kd : Int) (cs ms : List Mk) (k : Nat) : maxTo (zGapF kd cs ms) (k + 1) = max (maxTo (zGapF kd cs ms) k) (gapV kd cs (mat ms k)) := rfl
theorem zGap_bd (kd : Int) (cs ms : List Mk) (k : Nat) : 0 ≤ maxTo (zGapF kd cs ms) k ∧ maxTo (zGapF kd cs ms) k ≤ 16000000 :=
  maxTo_le _ _ (by omega) (fun _ => (gapTo_bd _ _ _ _).2) k

set_option maxRecDepth 100000 in
set_option maxHeartbeats 1000000 in
theorem iAbout (ac ao : Option Addr) (cc cap : Nat) (cs ms : List Mk) (kd : Int) (w : World) (hc : MView w ac cs) (hv : MView w ao ms) (h0 : 0 < cs.length) (hcap : cs.length ≤ cc) (hcm : MSmall cs) (hsm : MSmall ms) :
    Calls Try.prog 35 #[.slice ac cs.length cc, .slice ao ms.length cap, .int .i64 kd] w fun e w' => e = .returned (.int .i64 (maxTo (zGapF kd cs ms) ms.length)) ∧ Below w.heap.size w w' := by
  have hn := hsm.1
  have HAT := hidP hsm.2
  have HCM := hidP hcm
  have HVC := hidP hc
  have HVM := hidP hv
  clear hc hv hsm hcm
  go_enter Try.func35, Try.ntmps35
  go_wp2_with fail
  go_loopw [7, 12] (fun s i wr => ∃ k : Nat, k ≤ ms.length ∧ i = .int .i64 k ∧ s = .int .i64 (maxTo (zGapF kd cs ms) k) ∧ Below w.heap.size w wr) (fun _ i _ => ms.length - (intOf i).toNat)
  case atStart => exact ⟨0, Nat.zero_le _, rfl, rfl, Below.refl _ _⟩
  case round =>
    obtain ⟨k, hk, rfl, rfl, L⟩ := hrel
    by_cases hlt : k < ms.length
    · have hvw := HVM.out.next L
      obtain ⟨b, off, rfl, hb, hs⟩ := MSeg.seg hvw (by omega)
      obtain ⟨hc0, ae, ce, hc1, hve⟩ := hs.at hlt
      have L2 : Below wr.heap.size wr (wr.alloc (.cells #[.int .i64 (mid ms k), .slice ae (mat ms k).length ce] 55)) := (Below.refl _ _).alloc (Nat.le_refl _) _
      have HC := hidP (iGap ac ae cc ce cs (mnth ms k) kd _ ((HVC.out.next L).next L2) (View.next hve L2) h0 hcap HCM.out (HAT.out k))
      rw [mnth_2, mnth_1] at HC
      have HN := hidP (zGap_max kd cs ms k)
      have HL := hidP (below_two L L2)
      have hbd : -1 ≤ gapV kd cs (mat ms k) ∧ gapV kd cs (mat ms k) ≤ 16000000 := gapTo_bd kd cs (mat ms k) _
      have hmx := zGap_bd kd cs ms k
      generalize gapV kd cs (mat ms k) = y at *
      clear L hvw hve L2 hs hb
      go_wp2_with fail
      refine HC.out.mono ?_
      rintro e w2 ⟨rfl, L3⟩
      have LF := hidP (below_two HL.out L3)
      clear L3
      go_wp2_with fail
      all_goals
        go_roundw
        case rel => exact ⟨k + 1, by omega, by go_num, by rw [HN.out]; congr 1; omega, LF.out⟩
        case measure => simp [intOf]; omega
    · obtain rfl : k = ms.length := by omega
      go_wp2_with fail
      go_ret
      exact ⟨rfl, L⟩

end Go.Proofs.Ytpcclaehcmnngaa
