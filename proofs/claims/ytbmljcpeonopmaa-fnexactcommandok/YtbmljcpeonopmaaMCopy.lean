/-
  The laws' own helpers over rows of marks: toMarkS (a copy), eqMarkS (are two alike).
-/
import Derived.Test.YtbmljcpeonopmaaMSize
import Derived.Deep.RegionHeld3
namespace Go.Proofs.Ytbmljcpeonopmaa
open Go Go.RowKit

theorem Try.info76 : (Try.prog.info? 76).map (fun i => (i.zero, i.size, i.bytes)) = some (some (.agg #[.int .i64 0, .slice none 0 0]), 2, 32) := by kernel_rfl

set_option maxHeartbeats 400000 in
theorem toM (m : Mk) (ao : Option Addr) (cap : Nat) (w : World) (hv : View w ao m.2) (hn : m.2.length ≤ 1048576) :
    Calls Try.prog 68 #[.agg #[.int .i64 m.1, .slice ao m.2.length cap]] w fun e w' => ∃ b, e = .returned (.agg #[.int .i64 m.1, .slice (some ⟨b, 0, none⟩) m.2.length m.2.length]) ∧ Own w' b m.2 ∧ w.heap.size ≤ b ∧ Below w.heap.size w w' := by
  have L0 : Below w.heap.size w (((w.alloc (.cells #[.int .i64 m.1, .slice ao m.2.length cap] 99)).alloc (.cells #[.int .i64 0, .slice none 0 0] 76)).alloc (.cells #[.int .i64 m.1, .slice none 0 0] 76)) :=
    (((Below.refl _ _).alloc (Nat.le_refl _) _).alloc (by simp) _).alloc (by simp; omega) _
  have c10 : (((w.alloc (.cells #[.int .i64 m.1, .slice ao m.2.length cap] 99)).alloc (.cells #[.int .i64 0, .slice none 0 0] 76)).alloc (.cells #[.int .i64 m.1, .slice none 0 0] 76)).cell? ⟨w.heap.size + 1, 0, none⟩ = some (.int .i64 0) := by go_simp
  have c11 : (((w.alloc (.cells #[.int .i64 m.1, .slice ao m.2.length cap] 99)).alloc (.cells #[.int .i64 0, .slice none 0 0] 76)).alloc (.cells #[.int .i64 m.1, .slice none 0 0] 76)).cell? ⟨w.heap.size + 1, 1, none⟩ = some (.slice none 0 0) := by go_simp
  have c20 : (((w.alloc (.cells #[.int .i64 m.1, .slice ao m.2.length cap] 99)).alloc (.cells #[.int .i64 0, .slice none 0 0] 76)).alloc (.cells #[.int .i64 m.1, .slice none 0 0] 76)).cell? ⟨w.heap.size + 1 + 1, 0, none⟩ = some (.int .i64 m.1) := by go_simp
  have c21 : (((w.alloc (.cells #[.int .i64 m.1, .slice ao m.2.length cap] 99)).alloc (.cells #[.int .i64 0, .slice none 0 0] 76)).alloc (.cells #[.int .i64 m.1, .slice none 0 0] 76)).cell? ⟨w.heap.size + 1 + 1, 1, none⟩ = some (.slice none 0 0) := by go_simp
  have f10 : (((w.alloc (.cells #[.int .i64 m.1, .slice ao m.2.length cap] 99)).alloc (.cells #[.int .i64 0, .slice none 0 0] 76)).alloc (.cells #[.int .i64 m.1, .slice none 0 0] 76)).frozen? ⟨w.heap.size + 1, 0, none⟩ = false := by go_simp
  have f11 : (((w.alloc (.cells #[.int .i64 m.1, .slice ao m.2.length cap] 99)).alloc (.cells #[.int .i64 0, .slice none 0 0] 76)).alloc (.cells #[.int .i64 m.1, .slice none 0 0] 76)).frozen? ⟨w.heap.size + 1, 1, none⟩ = false := by go_simp
  have f21 : (((w.alloc (.cells #[.int .i64 m.1, .slice ao m.2.length cap] 99)).alloc (.cells #[.int .i64 0, .slice none 0 0] 76)).alloc (.cells #[.int .i64 m.1, .slice none 0 0] 76)).frozen? ⟨w.heap.size + 1 + 1, 1, none⟩ = false := by go_simp
  have hsz : (((w.alloc (.cells #[.int .i64 m.1, .slice ao m.2.length cap] 99)).alloc (.cells #[.int .i64 0, .slice none 0 0] 76)).alloc (.cells #[.int .i64 m.1, .slice none 0 0] 76)).heap.size = w.heap.size + 3 := by simp
  go_enter Try.func68, Try.ntmps68
  go_wp2_with fail
  generalize (((w.alloc (.cells #[.int .i64 m.1, .slice ao m.2.length cap] 99)).alloc (.cells #[.int .i64 0, .slice none 0 0] 76)).alloc (.cells #[.int .i64 m.1, .slice none 0 0] 76)) = W0 at *
  refine (toS ao cap m.2 W0 (hv.below (Nat.le_refl _) L0) hn).mono ?_
  rintro e w1 ⟨b1, rfl, o1, hb1, L1⟩
  replace c10 := (L1.cell (p := ⟨w.heap.size + 1, 0, none⟩) (by simp; omega)).trans c10
  replace c11 := (L1.cell (p := ⟨w.heap.size + 1, 1, none⟩) (by simp; omega)).trans c11
  replace c20 := (L1.cell (p := ⟨w.heap.size + 1 + 1, 0, none⟩) (by simp; omega)).trans c20
  replace c21 := (L1.cell (p := ⟨w.heap.size + 1 + 1, 1, none⟩) (by simp; omega)).trans c21
  replace f10 := (L1.frozen (p := ⟨w.heap.size + 1, 0, none⟩) (by simp; omega)).trans f10
  replace f11 := (L1.frozen (p := ⟨w.heap.size + 1, 1, none⟩) (by simp; omega)).trans f11
  replace f21 := (L1.frozen (p := ⟨w.heap.size + 1 + 1, 1, none⟩) (by simp; omega)).trans f21
  have L2 := L0.trans (L1.mono L0.size)
  clear L0 L1 hv
  go_wp2_with fail
  refine bodyPost_ret (v := .agg #[.int .i64 m.1, .slice (some ⟨b1, 0, none⟩) m.2.length m.2.length]) (by simp [results, Try.results68, go_sem, c10, c11]) rfl ?_
  refine ⟨b1, rfl, ?_, by omega, ?_⟩
  · exact (((o1.setOther (by simp; omega) _).setOther (by simp; omega) _).setOther (by simp; omega) _)
  · exact ((L2.setCell (by simp; omega) _).setCell (by simp) _).setCell (by simp) _

set_option maxHeartbeats 800000 in
theorem toMS_seg (b off cap : Nat) (ms : List Mk) (w : World) (hs : MSeg w b off ms) (hb : b < w.heap.size) (hsm : MSmall ms) :
    Calls Try.prog 33 #[.slice (some ⟨b, off, none⟩) ms.length cap] w fun e w' => e = .returned (.slice (some ⟨w.heap.size, 0, none⟩) ms.length ms.length) ∧ MPart w' w.heap.size ms.length ms.length ms ∧ Below w.heap.size w w' := by
  obtain ⟨hn, hat⟩ := hsm
  have hmk := run_make_rows (P := Try.prog) 29 76 (.agg #[.int .i64 0, .slice none 0 0]) 2 32 Try.underlying29 Try.info76 .i64 .i64 ms.length (by omega) (by omega)
  go_enter Try.func33, Try.ntmps33
  go_wp2
  clear hmk
  go_loopw [4] (fun i wr => ∃ k : Nat, k ≤ ms.length ∧ i = .int .i64 k ∧ MPart wr w.heap.size k ms.length ms ∧ Below w.heap.size w wr) (fun i _ => ms.length - (intOf i).toNat)
  case atStart => exact ⟨0, Nat.zero_le _, rfl, MPart.start w _ _ _ _, (Below.refl _ _).alloc (Nat.le_refl _) _⟩
  case round =>
    obtain ⟨k, hk, rfl, hp, L⟩ := hrel
    by_cases hlt : k < ms.length
    · obtain ⟨hc0, ao, cap', hc1, hv⟩ := (hs.below hb (Nat.le_refl _) L).at hlt
      have hz := L.size
      have hp1 := hp.1
      go_wp2_with fail
      refine (toM (mnth ms k) ao cap' _ hv (hat k)).mono ?_
      rintro e w1 ⟨g, rfl, o1, hg, L1⟩
      have hp' := hp.below (Nat.le_refl _) L1
      have L2 := L.trans (L1.mono hz)
      obtain ⟨v0, e0, f0⟩ := hp'.2.2.1 (k * 2) (Nat.le_refl _) (by omega)
      obtain ⟨v1, e1, f1⟩ := hp'.2.2.1 (k * 2 + 1) (by omega) (by omega)
      have HS := hidP (hp'.step hlt (by omega) o1)
      have HL := hidP L2
      clear hp hp' L L1 L2 o1 hc0 hc1 hv
      go_wp2_with fail
      go_roundw
      case rel => exact ⟨k + 1, by omega, by go_num, HS.out, (HL.out.setCell (by simp) _).setCell (by simp) _⟩
      case measure => simp [intOf]; omega
    · go_wp2
      go_ret
      obtain rfl : k = ms.length := by omega
      exact ⟨rfl, hp, L⟩

set_option maxHeartbeats 400000 in
theorem toMS_nil (ao : Option Addr) (cap : Nat) (w : World) :
    Calls Try.prog 33 #[.slice ao 0 cap] w fun e w' => e = .returned (.slice (some ⟨w.heap.size, 0, none⟩) 0 0) ∧ w' = w.alloc (.cells #[] 76) := by
  have hmk : ∀ w, (Instr.makeSlice 29 (.int .i64 0) (.int .i64 0)).run Try.prog w = .ok (.slice (some ⟨w.heap.size, 0, none⟩) 0 0) (w.alloc (.cells #[] 76)) := fun _ => by kernel_rfl
  go_enter Try.func33, Try.ntmps33
  go_wp2
  clear hmk
  refine wp_loop_rounds 1 ?_
  rw [rounds_succ]
  go_wp2
  go_ret
  exact ⟨rfl, rfl⟩

/-- toMarkS: new marks that read as what was given. -/
theorem toMS (ao : Option Addr) (cap : Nat) (ms : List Mk) (w : World) (hv : MView w ao ms) (hsm : MSmall ms) :
    Calls Try.prog 33 #[.slice ao ms.length cap] w fun e w' => ∃ b, e = .returned (.slice (some ⟨b, 0, none⟩) ms.length ms.length) ∧ MPart w' b ms.length ms.length ms ∧ w.heap.size ≤ b ∧ Below w.heap.size w w' := by
  rcases hv with rfl | ⟨b, off, rfl, hb, hs⟩
  · refine (toMS_nil ao cap w).mono ?_
    rintro e w' ⟨rfl, rfl⟩
    exact ⟨_, rfl, ⟨by simp, fun i hi => by simp at hi, fun j _ h2 => by simp at h2, fun j => World.frozen?_alloc_at _ _ _ _ rfl⟩, Nat.le_refl _, (Below.refl _ _).alloc (Nat.le_refl _) _⟩
  · refine (toMS_seg b off cap ms w hs hb hsm).mono ?_
    rintro e w' ⟨rfl, hp, L⟩
    exact ⟨_, rfl, hp, Nat.le_refl _, L⟩

set_option maxHeartbeats 400000 in
theorem eqM (m m' : Mk) (ao ao' : Option Addr) (cap cap' : Nat) (w : World) (hv : View w ao m.2) (hv' : View w ao' m'.2) (hn : m.2.length ≤ 1048576) :
    Calls Try.prog 77 #[.agg #[.int .i64 m.1, .slice ao m.2.length cap], .agg #[.int .i64 m'.1, .slice ao' m'.2.length cap']] w fun e w' => e = .returned (.bool (decide (m = m'))) ∧ Below w.heap.size w w' := by
  have L0 : Below w.heap.size w ((w.alloc (.cells #[.int .i64 m.1, .slice ao m.2.length cap] 76)).alloc (.cells #[.int .i64 m'.1, .slice ao' m'.2.length cap'] 76)) :=
    ((Below.refl _ _).alloc (Nat.le_refl _) _).alloc (by simp) _
  by_cases h : m.1 = m'.1
  · have hb : (m.1 != m'.1) = false := by simp [h]
    have HM : Hid (∀ b, b = decide (m.2 = m'.2) → decide (m = m') = b) := by
      rintro b rfl
      obtain ⟨x, xs⟩ := m
      obtain ⟨y, ys⟩ := m'
      simp only at h
      subst h
      simp
    clear h
    have hv0 := View.next hv L0
    have hv0' := View.next hv' L0
    clear hv hv'
    go_enter Try.func77, Try.ntmps77
    go_wp2_with fail
    refine (eqS ao ao' cap cap' m.2 m'.2 _ hv0 hv0' hn).mono ?_
    rintro e w1 ⟨rfl, n1, rfl⟩
    have HM' := hidP (HM.out _ rfl)
    generalize decide (m.2 = m'.2) = d at *
    cases d
    · go_wp2_with fail
      go_ret
      exact ⟨ret_bool HM'.out.symm, below_drewN L0 _⟩
    · go_wp2_with fail
      go_ret
      exact ⟨ret_bool HM'.out.symm, below_drewN L0 _⟩
  · have hb : (m.1 != m'.1) = true := by simp [h]
    have HM : Hid (decide (m = m') = false) := by show decide (m = m') = false; simp; rintro rfl; exact h rfl
    clear h
    go_enter Try.func77, Try.ntmps77
    go_wp2_with fail
    go_ret
    exact ⟨ret_bool HM.out.symm, L0⟩

set_option maxHeartbeats 400000 in
theorem eqMS_ne (ao ao' : Option Addr) (n n' cap cap' : Nat) (w : World) (h : n ≠ n') :
    Calls Try.prog 39 #[.slice ao n cap, .slice ao' n' cap'] w fun e w' => e = .returned (.bool false) ∧ w' = w := by
  have hlb : ((n : Int) != (n' : Int)) = true := by simp; omega
  go_enter Try.func39, Try.ntmps39
  go_wp2
  go_ret
  exact ⟨rfl, rfl⟩

set_option maxHeartbeats 400000 in
theorem eqMS_nil (ao ao' : Option Addr) (cap cap' : Nat) (w : World) :
    Calls Try.prog 39 #[.slice ao 0 cap, .slice ao' 0 cap'] w fun e w' => e = .returned (.bool true) ∧ w' = w := by
  go_enter Try.func39, Try.ntmps39
  go_wp2
  refine wp_loop_rounds 1 ?_
  rw [rounds_succ]
  go_wp2
  go_ret
  exact ⟨rfl, rfl⟩

theorem ms_eq {ms ns : List Mk} (hl : ms.length = ns.length) (h : ∀ j, j < ms.length → mnth ms j = mnth ns j) : ms = ns :=
  mk_eq hl fun i hi => ⟨congrArg Prod.fst (h i hi), congrArg Prod.snd (h i hi)⟩

set_option maxHeartbeats 1000000 in
theorem eqMS_seg (b off cap b' off' cap' : Nat) (ms ns : List Mk) (w : World) (hs : MSeg w b off ms) (hs' : MSeg w b' off' ns) (hb : b < w.heap.size) (hb' : b' < w.heap.size) (hsm : MSmall ms) (hl : ms.length = ns.length) :
    Calls Try.prog 39 #[.slice (some ⟨b, off, none⟩) ms.length cap, .slice (some ⟨b', off', none⟩) ns.length cap'] w fun e w' => e = .returned (.bool (decide (ms = ns))) ∧ Below w.heap.size w w' := by
  obtain ⟨hn, hat⟩ := hsm
  have hlb : ((ms.length : Int) != (ns.length : Int)) = false := by simp [hl]
  have HL : Hid (ms.length = ns.length) := hl
  have hn' : ns.length ≤ 1048576 := by omega
  clear hl
  go_enter Try.func39, Try.ntmps39
  go_wp2
  go_loopw [5] (fun i wr => ∃ k : Nat, k ≤ ms.length ∧ i = .int .i64 k ∧ (∀ j, j < k → mnth ms j = mnth ns j) ∧ Below w.heap.size w wr) (fun i _ => ms.length - (intOf i).toNat)
  case atStart => exact ⟨0, Nat.zero_le _, rfl, fun j hj => by omega, Below.refl _ _⟩
  case round =>
    obtain ⟨k, hk, rfl, hall, L⟩ := hrel
    have HA := hidP hall
    clear hall
    by_cases hlt : k < ms.length
    · have hlt' : k < ns.length := by have := HL.out; omega
      obtain ⟨hc0, ao, ca, hc1, hv⟩ := (hs.below hb (Nat.le_refl _) L).at hlt
      obtain ⟨hd0, ao', ca', hd1, hv'⟩ := (hs'.below hb' (Nat.le_refl _) L).at hlt'
      have hi0 : (0 : Int) ≤ (k : Int) := Int.natCast_nonneg _
      have hi1 : (k : Int) < (ms.length : Int) := by omega
      have hi2 : (k : Int) < (ns.length : Int) := by omega
      have hz := L.size
      have hbw : b < wr.heap.size := by omega
      have hbw' : b' < wr.heap.size := by omega
      have HC := hidP (eqM (mnth ms k) (mnth ns k) ao ao' ca ca' wr.drew hv hv' (hat k))
      have HLL := hidP L
      clear L hv hv'
      go_wp2
      go_region_held3 (fun w' => w'.cell? ⟨b, off + k * 2, none⟩ = some (.int .i64 (mid ms k)) ∧ w'.cell? ⟨b, off + k * 2 + 1, none⟩ = some (.slice ao (mat ms k).length ca) ∧ w'.cell? ⟨b', off' + k * 2, none⟩ = some (.int .i64 (mid ns k)) ∧ w'.cell? ⟨b', off' + k * 2 + 1, none⟩ = some (.slice ao' (mat ns k).length ca'))
        (first
          | go_keep
          | (refine ⟨(L1.cell (p := ⟨b, off + k * 2, none⟩) hbw).trans hc0, (L1.cell (p := ⟨b, off + k * 2 + 1, none⟩) hbw).trans hc1, (L1.cell (p := ⟨b', off' + k * 2, none⟩) hbw').trans hd0, (L1.cell (p := ⟨b', off' + k * 2 + 1, none⟩) hbw').trans hd1⟩))
        (first
          | (go_at_call 77; refine HC.out.mono ?_; rintro e w1 ⟨rfl, L1⟩))
      have LF := hidP (HLL.out.drew.trans (L1.mono hz))
      clear L1
      by_cases he : mnth ms k = mnth ns k
      · have heb : decide (mnth ms k = mnth ns k) = true := by simp [he]
        have HE := hidP he
        clear he
        generalize decide (mnth ms k = mnth ns k) = d at *
        subst heb
        go_wp2
        go_roundw
        case rel => exact ⟨k + 1, by omega, by go_num, fun j hj => by
          rcases Nat.lt_or_ge j k with h | h
          · exact HA.out j h
          · rw [show j = k by omega]; exact HE.out, LF.out⟩
        case measure => simp [intOf]; omega
      · have heb : decide (mnth ms k = mnth ns k) = false := by simp [he]
        have HE := hidP he
        clear he
        generalize decide (mnth ms k = mnth ns k) = d at *
        subst heb
        go_wp2
        go_ret
        exact ⟨ret_bool (Eq.symm (decide_eq_false (fun h => HE.out (by rw [h])))), LF.out⟩
    · go_wp2
      go_ret
      obtain rfl : k = ms.length := by omega
      exact ⟨ret_bool (Eq.symm (decide_eq_true (ms_eq HL.out HA.out))), L⟩

/-- eqMarkS: are two alike. -/
theorem eqMS (ao ao' : Option Addr) (cap cap' : Nat) (ms ns : List Mk) (w : World) (hv : MView w ao ms) (hv' : MView w ao' ns) (hsm : MSmall ms) :
    Calls Try.prog 39 #[.slice ao ms.length cap, .slice ao' ns.length cap'] w fun e w' => e = .returned (.bool (decide (ms = ns))) ∧ Below w.heap.size w w' := by
  by_cases hl : ms.length = ns.length
  · rcases hv with rfl | ⟨b, off, rfl, hb, hs⟩
    · obtain rfl : ns = [] := List.eq_nil_of_length_eq_zero (by simpa using hl.symm)
      refine (eqMS_nil ao ao' cap cap' w).mono ?_
      rintro e w' ⟨rfl, rfl⟩
      exact ⟨rfl, Below.refl _ _⟩
    · rcases hv' with rfl | ⟨b', off', rfl, hb', hs'⟩
      · obtain rfl : ms = [] := List.eq_nil_of_length_eq_zero (by simpa using hl)
        refine (eqMS_nil _ ao' cap cap' w).mono ?_
        rintro e w' ⟨rfl, rfl⟩
        exact ⟨rfl, Below.refl _ _⟩
      · exact eqMS_seg b off cap b' off' cap' ms ns w hs hs' hb hb' hsm hl
  · refine (eqMS_ne ao ao' ms.length ns.length cap cap' w hl).mono ?_
    rintro e w' ⟨rfl, rfl⟩
    exact ⟨ret_bool (Eq.symm (decide_eq_false (fun h => hl (by rw [h])))), Below.refl _ _⟩

end Go.Proofs.Ytbmljcpeonopmaa
