/-
  The laws' own helpers over rows of marks: toMarkS (a copy), eqMarkS (are two alike).
  What marks are: the given MarksOk and the program's own, each answers marksB; and what a kind is.
  The given MarksOk answers marksB.
  The program's MarksOk answers marksB.
  Dice, as plain numbers: what is rolled, how often four goes into them.
  The given and the program's Rolled and Level.
-/
import Derived.Test.YtaaagmgglolibaaGreatMSizeZz
import Derived.Deep.RegionHeld3
namespace Go.Proofs.YtaaagmgglolibaaGreat
open Go Go.RowKit

theorem Tryz.info29 : (Tryz.prog.info? 29).map (fun i => (i.zero, i.size, i.bytes)) = some (some (.agg #[.int .i64 0, .slice none 0 0]), 2, 32) := by kernel_rfl

set_option maxHeartbeats 400000 in
theorem toM (m : Mk) (ao : Option Addr) (cap : Nat) (w : World) (hv : View w ao m.2) (hn : m.2.length ≤ 1048576) :
    Calls Tryz.prog 67 #[.agg #[.int .i64 m.1, .slice ao m.2.length cap]] w fun e w' => ∃ b, e = .returned (.agg #[.int .i64 m.1, .slice (some ⟨b, 0, none⟩) m.2.length m.2.length]) ∧ Own w' b m.2 ∧ w.heap.size ≤ b ∧ Below w.heap.size w w' := by
  have L0 : Below w.heap.size w (((w.alloc (.cells #[.int .i64 m.1, .slice ao m.2.length cap] 93)).alloc (.cells #[.int .i64 0, .slice none 0 0] 29)).alloc (.cells #[.int .i64 m.1, .slice none 0 0] 29)) :=
    (((Below.refl _ _).alloc (Nat.le_refl _) _).alloc (by simp) _).alloc (by simp; omega) _
  have c10 : (((w.alloc (.cells #[.int .i64 m.1, .slice ao m.2.length cap] 93)).alloc (.cells #[.int .i64 0, .slice none 0 0] 29)).alloc (.cells #[.int .i64 m.1, .slice none 0 0] 29)).cell? ⟨w.heap.size + 1, 0, none⟩ = some (.int .i64 0) := by go_simp
  have c11 : (((w.alloc (.cells #[.int .i64 m.1, .slice ao m.2.length cap] 93)).alloc (.cells #[.int .i64 0, .slice none 0 0] 29)).alloc (.cells #[.int .i64 m.1, .slice none 0 0] 29)).cell? ⟨w.heap.size + 1, 1, none⟩ = some (.slice none 0 0) := by go_simp
  have c20 : (((w.alloc (.cells #[.int .i64 m.1, .slice ao m.2.length cap] 93)).alloc (.cells #[.int .i64 0, .slice none 0 0] 29)).alloc (.cells #[.int .i64 m.1, .slice none 0 0] 29)).cell? ⟨w.heap.size + 1 + 1, 0, none⟩ = some (.int .i64 m.1) := by go_simp
  have c21 : (((w.alloc (.cells #[.int .i64 m.1, .slice ao m.2.length cap] 93)).alloc (.cells #[.int .i64 0, .slice none 0 0] 29)).alloc (.cells #[.int .i64 m.1, .slice none 0 0] 29)).cell? ⟨w.heap.size + 1 + 1, 1, none⟩ = some (.slice none 0 0) := by go_simp
  have f10 : (((w.alloc (.cells #[.int .i64 m.1, .slice ao m.2.length cap] 93)).alloc (.cells #[.int .i64 0, .slice none 0 0] 29)).alloc (.cells #[.int .i64 m.1, .slice none 0 0] 29)).frozen? ⟨w.heap.size + 1, 0, none⟩ = false := by go_simp
  have f11 : (((w.alloc (.cells #[.int .i64 m.1, .slice ao m.2.length cap] 93)).alloc (.cells #[.int .i64 0, .slice none 0 0] 29)).alloc (.cells #[.int .i64 m.1, .slice none 0 0] 29)).frozen? ⟨w.heap.size + 1, 1, none⟩ = false := by go_simp
  have f21 : (((w.alloc (.cells #[.int .i64 m.1, .slice ao m.2.length cap] 93)).alloc (.cells #[.int .i64 0, .slice none 0 0] 29)).alloc (.cells #[.int .i64 m.1, .slice none 0 0] 29)).frozen? ⟨w.heap.size + 1 + 1, 1, none⟩ = false := by go_simp
  have hsz : (((w.alloc (.cells #[.int .i64 m.1, .slice ao m.2.length cap] 93)).alloc (.cells #[.int .i64 0, .slice none 0 0] 29)).alloc (.cells #[.int .i64 m.1, .slice none 0 0] 29)).heap.size = w.heap.size + 3 := by simp
  go_enter Tryz.func67, Tryz.ntmps67
  go_wp2_with fail
  generalize (((w.alloc (.cells #[.int .i64 m.1, .slice ao m.2.length cap] 93)).alloc (.cells #[.int .i64 0, .slice none 0 0] 29)).alloc (.cells #[.int .i64 m.1, .slice none 0 0] 29)) = W0 at *
  refine (toS ao cap m.2 W0 (hv.below (Nat.le_refl _) L0) hn).mono ?_
  rintro e w1 ⟨b1, rfl, o1, hb1, L1⟩
  replace c10 := (L1.cell (p := ⟨w.heap.size + 1, 0, none⟩) (by simp; omega)).trans c10
  replace c11 := (L1.cell (p := ⟨w.heap.size + 1, 1, none⟩) (by simp; omega)).trans c11
  replace c20 := (L1.cell (p := ⟨w.heap.size + 1 + 1, 0, none⟩) (by simp; omega)).trans c20
  replace c21 := (L1.cell (p := ⟨w.heap.size + 1 + 1, 1, none⟩) (by simp; omega)).trans c21
  replace f10 := (L1.frozen (p := ⟨w.heap.size + 1, 0, none⟩) (by simp; omega)).trans f10
  replace f11 := (L1.frozen (p := ⟨w.heap.size + 1, 1, none⟩) (by simp; omega)).trans f11
  replace f21 := (L1.frozen (p := ⟨w.heap.size + 1 + 1, 1, none⟩) (by simp; omega)).trans f21
  have L2 := L0.trans (L1.mono L0.size)
  clear L0 L1 hv
  go_wp2_with fail
  refine bodyPost_ret (v := .agg #[.int .i64 m.1, .slice (some ⟨b1, 0, none⟩) m.2.length m.2.length]) (by simp [results, Tryz.results67, go_sem, c10, c11]) rfl ?_
  refine ⟨b1, rfl, ?_, by omega, ?_⟩
  · exact (((o1.setOther (by simp; omega) _).setOther (by simp; omega) _).setOther (by simp; omega) _)
  · exact ((L2.setCell (by simp; omega) _).setCell (by simp) _).setCell (by simp) _

set_option maxHeartbeats 800000 in
theorem toMS_seg (b off cap : Nat) (ms : List Mk) (w : World) (hs : MSeg w b off ms) (hb : b < w.heap.size) (hsm : MSmall ms) :
    Calls Tryz.prog 168 #[.slice (some ⟨b, off, none⟩) ms.length cap] w fun e w' => e = .returned (.slice (some ⟨w.heap.size, 0, none⟩) ms.length ms.length) ∧ MPart w' w.heap.size ms.length ms.length ms ∧ Below w.heap.size w w' := by
  obtain ⟨hn, hat⟩ := hsm
  have hmk := run_make_rows (P := Tryz.prog) 44 29 (.agg #[.int .i64 0, .slice none 0 0]) 2 32 Tryz.underlying44 Tryz.info29 .i64 .i64 ms.length (by omega) (by omega)
  go_enter Tryz.func168, Tryz.ntmps168
  go_wp2
  clear hmk
  go_loopw [4] (fun i wr => ∃ k : Nat, k ≤ ms.length ∧ i = .int .i64 k ∧ MPart wr w.heap.size k ms.length ms ∧ Below w.heap.size w wr) (fun i _ => ms.length - (intOf i).toNat)
  case atStart => exact ⟨0, Nat.zero_le _, rfl, MPart.start w _ _ _ _, (Below.refl _ _).alloc (Nat.le_refl _) _⟩
  case round =>
    obtain ⟨k, hk, rfl, hp, L⟩ := hrel
    by_cases hlt : k < ms.length
    · obtain ⟨hc0, ao, cap', hc1, hv⟩ := (hs.below hb (Nat.le_refl _) L).at hlt
      have hz := L.size
      have hp1 := hp.1
      go_wp2_with fail
      refine (toM (mnth ms k) ao cap' _ hv (hat k)).mono ?_
      rintro e w1 ⟨g, rfl, o1, hg, L1⟩
      have hp' := hp.below (Nat.le_refl _) L1
      have L2 := L.trans (L1.mono hz)
      obtain ⟨v0, e0, f0⟩ := hp'.2.2.1 (k * 2) (Nat.le_refl _) (by omega)
      obtain ⟨v1, e1, f1⟩ := hp'.2.2.1 (k * 2 + 1) (by omega) (by omega)
      have HS := hidP (hp'.step hlt (by omega) o1)
      have HL := hidP L2
      clear hp hp' L L1 L2 o1 hc0 hc1 hv
      go_wp2_with fail
      go_roundw
      case rel => exact ⟨k + 1, by omega, by go_num, HS.out, (HL.out.setCell (by simp) _).setCell (by simp) _⟩
      case measure => simp [intOf]; omega
    · go_wp2
      go_ret
      obtain rfl : k = ms.length := by omega
      exact ⟨rfl, hp, L⟩

set_option maxHeartbeats 400000 in
theorem toMS_nil (ao : Option Addr) (cap : Nat) (w : World) :
    Calls Tryz.prog 168 #[.slice ao 0 cap] w fun e w' => e = .returned (.slice (some ⟨w.heap.size, 0, none⟩) 0 0) ∧ w' = w.alloc (.cells #[] 29) := by
  have hmk : ∀ w, (Instr.makeSlice 44 (.int .i64 0) (.int .i64 0)).run Tryz.prog w = .ok (.slice (some ⟨w.heap.size, 0, none⟩) 0 0) (w.alloc (.cells #[] 29)) := fun _ => by kernel_rfl
  go_enter Tryz.func168, Tryz.ntmps168
  go_wp2
  clear hmk
  refine wp_loop_rounds 1 ?_
  rw [rounds_succ]
  go_wp2
  go_ret
  exact ⟨rfl, rfl⟩

/-- toMarkS: new marks that read as what was given. -/
theorem toMS (ao : Option Addr) (cap : Nat) (ms : List Mk) (w : World) (hv : MView w ao ms) (hsm : MSmall ms) :
    Calls Tryz.prog 168 #[.slice ao ms.length cap] w fun e w' => ∃ b, e = .returned (.slice (some ⟨b, 0, none⟩) ms.length ms.length) ∧ MPart w' b ms.length ms.length ms ∧ w.heap.size ≤ b ∧ Below w.heap.size w w' := by
  rcases hv with rfl | ⟨b, off, rfl, hb, hs⟩
  · refine (toMS_nil ao cap w).mono ?_
    rintro e w' ⟨rfl, rfl⟩
    exact ⟨_, rfl, ⟨by simp, fun i hi => by simp at hi, fun j _ h2 => by simp at h2, fun j => World.frozen?_alloc_at _ _ _ _ rfl⟩, Nat.le_refl _, (Below.refl _ _).alloc (Nat.le_refl _) _⟩
  · refine (toMS_seg b off cap ms w hs hb hsm).mono ?_
    rintro e w' ⟨rfl, hp, L⟩
    exact ⟨_, rfl, hp, Nat.le_refl _, L⟩

set_option maxHeartbeats 400000 in
theorem eqM (m m' : Mk) (ao ao' : Option Addr) (cap cap' : Nat) (w : World) (hv : View w ao m.2) (hv' : View w ao' m'.2) (hn : m.2.length ≤ 1048576) :
    Calls Tryz.prog 69 #[.agg #[.int .i64 m.1, .slice ao m.2.length cap], .agg #[.int .i64 m'.1, .slice ao' m'.2.length cap']] w fun e w' => e = .returned (.bool (decide (m = m'))) ∧ Below w.heap.size w w' := by
  have L0 : Below w.heap.size w ((w.alloc (.cells #[.int .i64 m.1, .slice ao m.2.length cap] 29)).alloc (.cells #[.int .i64 m'.1, .slice ao' m'.2.length cap'] 29)) :=
    ((Below.refl _ _).alloc (Nat.le_refl _) _).alloc (by simp) _
  by_cases h : m.1 = m'.1
  · have hb : (m.1 != m'.1) = false := by simp [h]
    have HM : Hid (∀ b, b = decide (m.2 = m'.2) → decide (m = m') = b) := by
      rintro b rfl
      obtain ⟨x, xs⟩ := m
      obtain ⟨y, ys⟩ := m'
      simp only at h
      subst h
      simp
    clear h
    have hv0 := View.next hv L0
    have hv0' := View.next hv' L0
    clear hv hv'
    go_enter Tryz.func69, Tryz.ntmps69
    go_wp2_with fail
    refine (eqS ao ao' cap cap' m.2 m'.2 _ hv0 hv0' hn).mono ?_
    rintro e w1 ⟨rfl, n1, rfl⟩
    have HM' := hidP (HM.out _ rfl)
    generalize decide (m.2 = m'.2) = d at *
    cases d
    · go_wp2_with fail
      go_ret
      exact ⟨ret_bool HM'.out.symm, below_drewN L0 _⟩
    · go_wp2_with fail
      go_ret
      exact ⟨ret_bool HM'.out.symm, below_drewN L0 _⟩
  · have hb : (m.1 != m'.1) = true := by simp [h]
    have HM : Hid (decide (m = m') = false) := by show decide (m = m') = false; simp; rintro rfl; exact h rfl
    clear h
    go_enter Tryz.func69, Tryz.ntmps69
    go_wp2_with fail
    go_ret
    exact ⟨ret_bool HM.out.symm, L0⟩

set_option maxHeartbeats 400000 in
theorem eqMS_ne (ao ao' : Option Addr) (n n' cap cap' : Nat) (w : World) (h : n ≠ n') :
    Calls Tryz.prog 169 #[.slice ao n cap, .slice ao' n' cap'] w fun e w' => e = .returned (.bool false) ∧ w' = w := by
  have hlb : ((n : Int) != (n' : Int)) = true := by simp; omega
  go_enter Tryz.func169, Tryz.ntmps169
  go_wp2
  go_ret
  exact ⟨rfl, rfl⟩

set_option maxHeartbeats 400000 in
theorem eqMS_nil (ao ao' : Option Addr) (cap cap' : Nat) (w : World) :
    Calls Tryz.prog 169 #[.slice ao 0 cap, .slice ao' 0 cap'] w fun e w' => e = .returned (.bool true) ∧ w' = w := by
  go_enter Tryz.func169, Tryz.ntmps169
  go_wp2
  refine wp_loop_rounds 1 ?_
  rw [rounds_succ]
  go_wp2
  go_ret
  exact ⟨rfl, rfl⟩

theorem ms_eq {ms ns : List Mk} (hl : ms.length = ns.length) (h : ∀ j, j < ms.length → mnth ms j = mnth ns j) : ms = ns :=
  mk_eq hl fun i hi => ⟨congrArg Prod.fst (h i hi), congrArg Prod.snd (h i hi)⟩

set_option maxHeartbeats 1000000 in
theorem eqMS_seg (b off cap b' off' cap' : Nat) (ms ns : List Mk) (w : World) (hs : MSeg w b off ms) (hs' : MSeg w b' off' ns) (hb : b < w.heap.size) (hb' : b' < w.heap.size) (hsm : MSmall ms) (hl : ms.length = ns.length) :
    Calls Tryz.prog 169 #[.slice (some ⟨b, off, none⟩) ms.length cap, .slice (some ⟨b', off', none⟩) ns.length cap'] w fun e w' => e = .returned (.bool (decide (ms = ns))) ∧ Below w.heap.size w w' := by
  obtain ⟨hn, hat⟩ := hsm
  have hlb : ((ms.length : Int) != (ns.length : Int)) = false := by simp [hl]
  have HL : Hid (ms.length = ns.length) := hl
  have hn' : ns.length ≤ 1048576 := by omega
  clear hl
  go_enter Tryz.func169, Tryz.ntmps169
  go_wp2
  go_loopw [5] (fun i wr => ∃ k : Nat, k ≤ ms.length ∧ i = .int .i64 k ∧ (∀ j, j < k → mnth ms j = mnth ns j) ∧ Below w.heap.size w wr) (fun i _ => ms.length - (intOf i).toNat)
  case atStart => exact ⟨0, Nat.zero_le _, rfl, fun j hj => by omega, Below.refl _ _⟩
  case round =>
    obtain ⟨k, hk, rfl, hall, L⟩ := hrel
    have HA := hidP hall
    clear hall
    by_cases hlt : k < ms.length
    · have hlt' : k < ns.length := by have := HL.out; omega
      obtain ⟨hc0, ao, ca, hc1, hv⟩ := (hs.below hb (Nat.le_refl _) L).at hlt
      obtain ⟨hd0, ao', ca', hd1, hv'⟩ := (hs'.below hb' (Nat.le_refl _) L).at hlt'
      have hi0 : (0 : Int) ≤ (k : Int) := Int.natCast_nonneg _
      have hi1 : (k : Int) < (ms.length : Int) := by omega
      have hi2 : (k : Int) < (ns.length : Int) := by omega
      have hz := L.size
      have hbw : b < wr.heap.size := by omega
      have hbw' : b' < wr.heap.size := by omega
      have HC := hidP (eqM (mnth ms k) (mnth ns k) ao ao' ca ca' wr.drew hv hv' (hat k))
      have HLL := hidP L
      clear L hv hv'
      go_wp2
      go_region_held3 (fun w' => w'.cell? ⟨b, off + k * 2, none⟩ = some (.int .i64 (mid ms k)) ∧ w'.cell? ⟨b, off + k * 2 + 1, none⟩ = some (.slice ao (mat ms k).length ca) ∧ w'.cell? ⟨b', off' + k * 2, none⟩ = some (.int .i64 (mid ns k)) ∧ w'.cell? ⟨b', off' + k * 2 + 1, none⟩ = some (.slice ao' (mat ns k).length ca'))
        (first
          | go_keep
          | (refine ⟨(L1.cell (p := ⟨b, off + k * 2, none⟩) hbw).trans hc0, (L1.cell (p := ⟨b, off + k * 2 + 1, none⟩) hbw).trans hc1, (L1.cell (p := ⟨b', off' + k * 2, none⟩) hbw').trans hd0, (L1.cell (p := ⟨b', off' + k * 2 + 1, none⟩) hbw').trans hd1⟩))
        (first
          | (go_at_call 69; refine HC.out.mono ?_; rintro e w1 ⟨rfl, L1⟩))
      have LF := hidP (HLL.out.drew.trans (L1.mono hz))
      clear L1
      by_cases he : mnth ms k = mnth ns k
      · have heb : decide (mnth ms k = mnth ns k) = true := by simp [he]
        have HE := hidP he
        clear he
        generalize decide (mnth ms k = mnth ns k) = d at *
        subst heb
        go_wp2
        go_roundw
        case rel => exact ⟨k + 1, by omega, by go_num, fun j hj => by
          rcases Nat.lt_or_ge j k with h | h
          · exact HA.out j h
          · rw [show j = k by omega]; exact HE.out, LF.out⟩
        case measure => simp [intOf]; omega
      · have heb : decide (mnth ms k = mnth ns k) = false := by simp [he]
        have HE := hidP he
        clear he
        generalize decide (mnth ms k = mnth ns k) = d at *
        subst heb
        go_wp2
        go_ret
        exact ⟨ret_bool (Eq.symm (decide_eq_false (fun h => HE.out (by rw [h])))), LF.out⟩
    · go_wp2
      go_ret
      obtain rfl : k = ms.length := by omega
      exact ⟨ret_bool (Eq.symm (decide_eq_true (ms_eq HL.out HA.out))), L⟩

/-- eqMarkS: are two alike. -/
theorem eqMS (ao ao' : Option Addr) (cap cap' : Nat) (ms ns : List Mk) (w : World) (hv : MView w ao ms) (hv' : MView w ao' ns) (hsm : MSmall ms) :
    Calls Tryz.prog 169 #[.slice ao ms.length cap, .slice ao' ns.length cap'] w fun e w' => e = .returned (.bool (decide (ms = ns))) ∧ Below w.heap.size w w' := by
  by_cases hl : ms.length = ns.length
  · rcases hv with rfl | ⟨b, off, rfl, hb, hs⟩
    · obtain rfl : ns = [] := List.eq_nil_of_length_eq_zero (by simpa using hl.symm)
      refine (eqMS_nil ao ao' cap cap' w).mono ?_
      rintro e w' ⟨rfl, rfl⟩
      exact ⟨rfl, Below.refl _ _⟩
    · rcases hv' with rfl | ⟨b', off', rfl, hb', hs'⟩
      · obtain rfl : ms = [] := List.eq_nil_of_length_eq_zero (by simpa using hl)
        refine (eqMS_nil _ ao' cap cap' w).mono ?_
        rintro e w' ⟨rfl, rfl⟩
        exact ⟨rfl, Below.refl _ _⟩
      · exact eqMS_seg b off cap b' off' cap' ms ns w hs hs' hb hb' hsm hl
  · refine (eqMS_ne ao ao' ms.length ns.length cap cap' w hl).mono ?_
    rintro e w' ⟨rfl, rfl⟩
    exact ⟨ret_bool (Eq.symm (decide_eq_false (fun h => hl (by rw [h])))), Below.refl _ _⟩

end Go.Proofs.YtaaagmgglolibaaGreat
namespace Go.Proofs.YtaaagmgglolibaaGreat
open Go Go.RowKit

def inR (x lo hi : Int) : Bool := decide (lo ≤ x) && decide (x ≤ hi)
theorem inR_true {x lo hi : Int} (h1 : lo ≤ x) (h2 : x ≤ hi) : inR x lo hi = true := by simp [inR, h1, h2]
theorem inR_low {x lo hi : Int} (h1 : ¬ lo ≤ x) : inR x lo hi = false := by simp [inR, h1]
theorem inR_high {x lo hi : Int} (h2 : ¬ x ≤ hi) : inR x lo hi = false := by simp [inR, h2]
theorem inR_of {x lo hi : Int} (h : inR x lo hi = true) : lo ≤ x ∧ x ≤ hi := by simpa [inR] using h
theorem inR_not {x lo hi : Int} (h : inR x lo hi = false) : ¬ (lo ≤ x ∧ x ≤ hi) := by intro hh; rw [inR_true hh.1 hh.2] at h; cases h

set_option maxHeartbeats 400000 in
theorem sIn (x lo hi : Int) (w : World) :
    Calls Tryz.prog 119 #[.int .i64 x, .int .i64 lo, .int .i64 hi] w fun e w' => e = .returned (.bool (inR x lo hi)) ∧ w' = w := by
  by_cases h1 : lo ≤ x
  · by_cases h2 : x ≤ hi
    · have HV := hidP (inR_true h1 h2)
      go_enter Tryz.func119, Tryz.ntmps119
      go_wp2
      go_ret
      exact ⟨ret_bool HV.out.symm, rfl⟩
    · have HV := hidP (inR_high (lo := lo) h2)
      go_enter Tryz.func119, Tryz.ntmps119
      go_wp2
      go_ret
      exact ⟨ret_bool HV.out.symm, rfl⟩
  · have HV := hidP (inR_low (hi := hi) h1)
    go_enter Tryz.func119, Tryz.ntmps119
    go_wp2
    go_ret
    exact ⟨ret_bool HV.out.symm, rfl⟩

def goodM (m : Mk) : Bool := inR m.1 1 1000000 && okB m.2
def followsM (m l : Mk) : Bool := decide (l.1 < m.1) && decide (m.2.length = l.2.length)

set_option maxHeartbeats 400000 in
theorem iUpTo (k : Int) (w : World) :
    Calls Tryz.prog 157 #[.int .i64 k] w fun e w' => e = .returned (.bool (inR k 1 1000000)) ∧ w' = w := by
  by_cases h1 : 1 ≤ k
  · by_cases h2 : k ≤ 1000000
    · have HV := hidP (inR_true h1 h2)
      go_enter Tryz.func157, Tryz.ntmps157
      go_wp2
      go_ret
      exact ⟨ret_bool HV.out.symm, rfl⟩
    · have HV := hidP (inR_high (lo := 1) h2)
      go_enter Tryz.func157, Tryz.ntmps157
      go_wp2
      go_ret
      exact ⟨ret_bool HV.out.symm, rfl⟩
  · have HV := hidP (inR_low (hi := 1000000) h1)
    go_enter Tryz.func157, Tryz.ntmps157
    go_wp2
    go_ret
    exact ⟨ret_bool HV.out.symm, rfl⟩

set_option maxHeartbeats 400000 in
theorem iMarkOk (m : Mk) (ao : Option Addr) (cap : Nat) (w : World) (hv : View w ao m.2) (hn : m.2.length ≤ 1048576) :
    Calls Tryz.prog 213 #[.agg #[.int .i64 m.1, .slice ao m.2.length cap]] w fun e w' => e = .returned (.bool (goodM m)) ∧ Below w.heap.size w w' := by
  have L0 : Below w.heap.size w (w.alloc (.cells #[.int .i64 m.1, .slice ao m.2.length cap] 29)) := (Below.refl _ _).alloc (Nat.le_refl _) _
  have HP := hidP (fun W (L : Below w.heap.size w W) => iOk ao cap m.2 W (View.next hv L) hn)
  have HU := hidP (fun W => iUpTo m.1 W)
  have HL := hidP L0
  obtain ⟨b, hb⟩ : ∃ b, inR m.1 1 1000000 = b := ⟨_, rfl⟩
  rw [hb] at HU
  have HV : Hid (goodM m = (b && okB m.2)) := by show goodM m = _; simp [goodM, hb]
  clear hb hv L0
  go_enter Tryz.func213, Tryz.ntmps213
  go_wp2_with fail
  refine (HU.out _).mono ?_
  rintro e w1 ⟨rfl, rfl⟩
  cases b with
  | true =>
    go_wp2_with fail
    refine (HP.out _ HL.out).mono ?_
    rintro e w1 ⟨rfl, rfl⟩
    go_wp2_with fail
    go_ret
    exact ⟨ret_bool HV.out.symm, HL.out⟩
  | false =>
    go_wp2_with fail
    go_ret
    exact ⟨ret_bool HV.out.symm, HL.out⟩

set_option maxHeartbeats 400000 in
theorem iFollows (m l : Mk) (ao ao' : Option Addr) (cap cap' : Nat) (w : World) :
    Calls Tryz.prog 214 #[.agg #[.int .i64 m.1, .slice ao m.2.length cap], .agg #[.int .i64 l.1, .slice ao' l.2.length cap']] w fun e w' => e = .returned (.bool (followsM m l)) ∧ Below w.heap.size w w' := by
  have L0 : Below w.heap.size w ((w.alloc (.cells #[.int .i64 m.1, .slice ao m.2.length cap] 29)).alloc (.cells #[.int .i64 l.1, .slice ao' l.2.length cap'] 29)) :=
    ((Below.refl _ _).alloc (Nat.le_refl _) _).alloc (by simp) _
  by_cases h1 : l.1 < m.1
  · by_cases h2 : m.2.length = l.2.length
    · have HV : Hid (followsM m l = true) := by show followsM m l = _; simp [followsM, h1, h2]
      have hb : ((m.2.length : Int) == (l.2.length : Int)) = true := by simp [h2]
      clear h2
      go_enter Tryz.func214, Tryz.ntmps214
      go_wp2_with fail
      go_ret
      exact ⟨ret_bool HV.out.symm, L0⟩
    · have HV : Hid (followsM m l = false) := by show followsM m l = _; simp [followsM, h2]
      have hb : ((m.2.length : Int) == (l.2.length : Int)) = false := by simp; omega
      clear h2
      go_enter Tryz.func214, Tryz.ntmps214
      go_wp2_with fail
      go_ret
      exact ⟨ret_bool HV.out.symm, L0⟩
  · have HV : Hid (followsM m l = false) := by show followsM m l = _; simp [followsM, h1]
    go_enter Tryz.func214, Tryz.ntmps214
    go_wp2_with fail
    go_ret
    exact ⟨ret_bool HV.out.symm, L0⟩

end Go.Proofs.YtaaagmgglolibaaGreat
namespace Go.Proofs.YtaaagmgglolibaaGreat
open Go Go.RowKit

set_option maxHeartbeats 400000 in
theorem sMarks_long (ao : Option Addr) (n cap : Nat) (w : World) (h : 60 < n) (hn : n ≤ 1048576) :
    Calls Tryz.prog 139 #[.slice ao n cap] w fun e w' => e = .returned (.bool false) ∧ w' = w := by
  go_enter Tryz.func139, Tryz.ntmps139
  go_wp2
  go_ret
  exact ⟨rfl, rfl⟩

set_option maxHeartbeats 400000 in
theorem sMarks_nil (ao : Option Addr) (cap : Nat) (w : World) :
    Calls Tryz.prog 139 #[.slice ao 0 cap] w fun e w' => e = .returned (.bool true) ∧ w' = w := by
  go_enter Tryz.func139, Tryz.ntmps139
  go_wp2
  refine wp_loop_rounds 1 ?_
  rw [rounds_succ]
  go_wp2
  go_ret
  exact ⟨rfl, rfl⟩

set_option maxHeartbeats 2000000 in
theorem sMarks_seg (b off cap : Nat) (ms : List Mk) (w : World) (hs : MSeg w b off ms) (_hb : b < w.heap.size) (hsm : MSmall ms) (h60 : ms.length ≤ 60) :
    Calls Tryz.prog 139 #[.slice (some ⟨b, off, none⟩) ms.length cap] w fun e w' => e = .returned (.bool (marksB ms)) ∧ ∃ n, w' = w.drewN n := by
  obtain ⟨hn, hat⟩ := hsm
  have H60 := hidP h60
  go_enter Tryz.func139, Tryz.ntmps139
  go_wp2
  go_loopw [3] (fun i wr => ∃ k : Nat, k ≤ ms.length ∧ i = .int .i64 k ∧ (∀ j, j < k → mOkAt ms j = true) ∧ ∃ n, wr = w.drewN n) (fun i _ => ms.length - (intOf i).toNat)
  case atStart => exact ⟨0, Nat.zero_le _, rfl, fun j hj => by omega, 0, rfl⟩
  case round =>
    obtain ⟨k, hk, rfl, hall, hw⟩ := hrel
    have HA := hidP hall
    have HW : Hid (∃ n, wr = w.drewN n) := hw
    clear hall hw
    by_cases hlt : k < ms.length
    · have hsw : MSeg wr b off ms := by obtain ⟨n, rfl⟩ := HW.out; exact hs
      obtain ⟨hc0, ao, ca, hc1, hv⟩ := hsw.at hlt
      obtain ⟨-, ao0, ca0, hd1, -⟩ := hsw.at (i := 0) (by omega)
      rw [Nat.zero_mul, Nat.add_zero] at hd1
      have hi0 : (0 : Int) ≤ (k : Int) := Int.natCast_nonneg _
      have hi1 : (k : Int) < (ms.length : Int) := by omega
      have hi2 : (0 : Int) < (ms.length : Int) := by omega
      have hnk := hat k
      have HV := hidP hv
      have HO := hidP (mOkAt_false ms k)
      have HO1 := hidP (mOkAt_iff ms k).2
      clear hv hsw
      rcases hin : inR (mid ms k) 1 1000000 with _ | _
      · have HIN := hidP (inR_not hin)
        go_wp2
        go_quiet (first | (go_at_call 119; exact Calls.quiet_of_same (sIn _ _ _ _)) | (go_at_call 27; exact Calls.quiet_of_same (sOk ao ca (mat ms k) _ (HV.out.drewN _) hnk)))
        go_wp2
        go_ret
        exact ⟨ret_bool (marksB_out hlt (HO.out (fun h => HIN.out ⟨h.1, h.2.1⟩))).symm, by obtain ⟨n, hn⟩ := HW.out; exact ⟨n + nq, by rw [hn]; simp⟩⟩
      · have HIN := hidP (inR_of hin)
        rcases hok : okB (mat ms k) with _ | _
        · go_wp2
          go_quiet (first | (go_at_call 119; exact Calls.quiet_of_same (sIn _ _ _ _)) | (go_at_call 27; exact Calls.quiet_of_same (sOk ao ca (mat ms k) _ (HV.out.drewN _) hnk)))
          go_wp2
          go_ret
          exact ⟨ret_bool (marksB_out hlt (HO.out (fun h => by rw [h.2.2.1] at hok; cases hok))).symm, by obtain ⟨n, hn⟩ := HW.out; exact ⟨n + nq, by rw [hn]; simp⟩⟩
        · by_cases hl : (mat ms k).length = (mat ms 0).length
          · have hlb : (((mat ms k).length : Int) != ((mat ms 0).length : Int)) = false := by simp [hl]
            have HLN := hidP hl
            clear hl
            rcases Nat.eq_zero_or_pos k with h0 | h0
            · subst h0
              have hg : decide ((0 : Int) < 0) = false := by decide
              simp only [Nat.zero_mul, Nat.add_zero] at hc0 hc1
              clear hd1
              go_wp2
              go_quiet (first | (go_at_call 119; exact Calls.quiet_of_same (sIn _ _ _ _)) | (go_at_call 27; exact Calls.quiet_of_same (sOk ao ca (mat ms 0) _ (HV.out.drewN _) hnk)))
              go_wp2
              go_roundw
              case rel => exact ⟨1, by omega, by go_num, fun j hj => by
                rw [show j = 0 by omega]; exact HO1.out ⟨HIN.out.1, HIN.out.2, hok, HLN.out, Or.inl (by trivial)⟩, by obtain ⟨n, hn⟩ := HW.out; exact ⟨n + nq, by rw [hn]; simp⟩⟩
              case measure => simp [intOf]; omega
            · obtain ⟨j, rfl⟩ : ∃ j, k = j + 1 := ⟨k - 1, by omega⟩
              have hsw : MSeg wr b off ms := by obtain ⟨n, rfl⟩ := HW.out; exact hs
              have he0 := (hsw.at (i := j) (by omega)).1
              clear hsw
              have hj1 : (j : Int) < (ms.length : Int) := by omega
              have hwr : IntKind.i64.wrap (((j + 1 : Nat) : Int) - 1) = j := by rw [IntWalk.i64_in _ ⟨by omega, by omega⟩]; omega
              have hwr2 : IntKind.i64.wrap ((j : Int) + 1 - 1) = j := by rw [IntWalk.i64_in _ ⟨by omega, by omega⟩]; omega
              have hg : (0 : Int) < ((j + 1 : Nat) : Int) := by omega
              by_cases hr : mid ms (j + 1) ≤ mid ms j
              · go_wp2
                go_quiet (first | (go_at_call 119; exact Calls.quiet_of_same (sIn _ _ _ _)) | (go_at_call 27; exact Calls.quiet_of_same (sOk ao ca (mat ms (j + 1)) _ (HV.out.drewN _) hnk)))
                go_wp2
                go_ret
                exact ⟨ret_bool (marksB_out hlt (HO.out (fun h => by have := h.2.2.2.2; simp at this; omega))).symm, by obtain ⟨n, hn⟩ := HW.out; exact ⟨n + nq, by rw [hn]; simp⟩⟩
              · go_wp2
                go_quiet (first | (go_at_call 119; exact Calls.quiet_of_same (sIn _ _ _ _)) | (go_at_call 27; exact Calls.quiet_of_same (sOk ao ca (mat ms (j + 1)) _ (HV.out.drewN _) hnk)))
                go_wp2
                go_roundw
                case rel => exact ⟨j + 1 + 1, by omega, by go_num, fun i hi => by
                  rcases Nat.lt_or_ge i (j + 1) with h | h
                  · exact HA.out i h
                  · rw [show i = j + 1 by omega]; exact HO1.out ⟨HIN.out.1, HIN.out.2, hok, HLN.out, Or.inr (by simp; omega)⟩, by obtain ⟨n, hn⟩ := HW.out; exact ⟨n + nq, by rw [hn]; simp⟩⟩
                case measure => simp [intOf]; omega
          · have hlb : (((mat ms k).length : Int) != ((mat ms 0).length : Int)) = true := by simp; omega
            have HLN := hidP hl
            clear hl
            go_wp2
            go_quiet (first | (go_at_call 119; exact Calls.quiet_of_same (sIn _ _ _ _)) | (go_at_call 27; exact Calls.quiet_of_same (sOk ao ca (mat ms k) _ (HV.out.drewN _) hnk)))
            go_wp2
            go_ret
            exact ⟨ret_bool (marksB_out hlt (HO.out (fun h => HLN.out h.2.2.2.1))).symm, by obtain ⟨n, hn⟩ := HW.out; exact ⟨n + nq, by rw [hn]; simp⟩⟩
    · go_wp2
      go_ret
      obtain rfl : k = ms.length := by omega
      exact ⟨ret_bool (Eq.symm (marksB_mk H60.out HA.out)), HW.out⟩

theorem sMarks (ao : Option Addr) (cap : Nat) (ms : List Mk) (w : World) (hv : MView w ao ms) (hsm : MSmall ms) :
    Calls Tryz.prog 139 #[.slice ao ms.length cap] w fun e w' => e = .returned (.bool (marksB ms)) ∧ ∃ n, w' = w.drewN n := by
  rcases Nat.lt_or_ge 60 ms.length with h | h
  · refine (sMarks_long ao ms.length cap w h hsm.1).mono ?_
    rintro e w' ⟨rfl, rfl⟩
    exact ⟨ret_bool (marksB_long h).symm, 0, rfl⟩
  · rcases hv with rfl | ⟨b, off, rfl, hb, hs⟩
    · refine (sMarks_nil ao cap w).mono ?_
      rintro e w' ⟨rfl, rfl⟩
      exact ⟨rfl, 0, rfl⟩
    · exact sMarks_seg b off cap ms w hs hb hsm h

end Go.Proofs.YtaaagmgglolibaaGreat
namespace Go.Proofs.YtaaagmgglolibaaGreat
open Go Go.RowKit

theorem goodM_iff (m : Mk) : goodM m = true ↔ 1 ≤ m.1 ∧ m.1 ≤ 1000000 ∧ okB m.2 = true := by simp [goodM, inR, and_assoc]
theorem followsM_iff (m l : Mk) : followsM m l = true ↔ l.1 < m.1 ∧ m.2.length = l.2.length := by simp [followsM]
theorem mOk_zero {ms : List Mk} (h : goodM (mnth ms 0) = true) : mOkAt ms 0 = true := by
  rw [goodM_iff] at h
  exact (mOkAt_iff ms 0).2 ⟨h.1, h.2.1, h.2.2, rfl, Or.inl rfl⟩
theorem mOk_next {ms : List Mk} {j : Nat} (hp : mOkAt ms j = true) (h : goodM (mnth ms (j + 1)) = true) (hf : followsM (mnth ms (j + 1)) (mnth ms j) = true) : mOkAt ms (j + 1) = true := by
  rw [goodM_iff] at h
  rw [followsM_iff] at hf
  have := (mOkAt_iff ms j).1 hp
  exact (mOkAt_iff ms (j + 1)).2 ⟨h.1, h.2.1, h.2.2, hf.2.trans this.2.2.2.1, Or.inr hf.1⟩
theorem mOk_bad {ms : List Mk} {k : Nat} (h : goodM (mnth ms k) = false) : mOkAt ms k = false :=
  mOkAt_false ms k fun hh => by rw [(goodM_iff (mnth ms k)).2 ⟨hh.1, hh.2.1, hh.2.2.1⟩] at h; cases h
theorem mOk_apart {ms : List Mk} {j : Nat} (hp : mOkAt ms j = true) (hf : followsM (mnth ms (j + 1)) (mnth ms j) = false) : mOkAt ms (j + 1) = false :=
  mOkAt_false ms (j + 1) fun hh => by
    have := (mOkAt_iff ms j).1 hp
    have h5 := hh.2.2.2.2
    simp at h5
    rw [(followsM_iff (mnth ms (j + 1)) (mnth ms j)).2 ⟨h5, hh.2.2.2.1.trans this.2.2.2.1.symm⟩] at hf
    cases hf

set_option maxHeartbeats 400000 in
theorem iMarks_long (ao : Option Addr) (n cap : Nat) (w : World) (h : 60 < n) (hn : n ≤ 1048576) :
    Calls Tryz.prog 136 #[.slice ao n cap] w fun e w' => e = .returned (.bool false) ∧ w' = w := by
  go_enter Tryz.func136, Tryz.ntmps136
  go_wp2
  go_ret
  exact ⟨rfl, rfl⟩

set_option maxHeartbeats 400000 in
theorem iMarks_nil (ao : Option Addr) (cap : Nat) (w : World) :
    Calls Tryz.prog 136 #[.slice ao 0 cap] w fun e w' => e = .returned (.bool true) ∧ w' = w := by
  go_enter Tryz.func136, Tryz.ntmps136
  go_wp2
  refine wp_loop_rounds 1 ?_
  rw [rounds_succ]
  go_wp2
  go_ret
  exact ⟨rfl, rfl⟩

set_option maxHeartbeats 2000000 in
theorem iMarks_seg (b off cap : Nat) (ms : List Mk) (w : World) (hs : MSeg w b off ms) (hb : b < w.heap.size) (hsm : MSmall ms) (h60 : ms.length ≤ 60) :
    Calls Tryz.prog 136 #[.slice (some ⟨b, off, none⟩) ms.length cap] w fun e w' => e = .returned (.bool (marksB ms)) ∧ Below w.heap.size w w' := by
  obtain ⟨hn, hat⟩ := hsm
  have H60 := hidP h60
  go_enter Tryz.func136, Tryz.ntmps136
  go_wp2
  go_loopw [10] (fun i wr => ∃ k : Nat, k ≤ ms.length ∧ i = .int .i64 k ∧ (∀ j, j < k → mOkAt ms j = true) ∧ Below w.heap.size w wr) (fun i _ => ms.length - (intOf i).toNat)
  case atStart => exact ⟨0, Nat.zero_le _, rfl, fun j hj => by omega, Below.refl _ _⟩
  case round =>
    obtain ⟨k, hk, rfl, hall, L⟩ := hrel
    have HA := hidP hall
    clear hall
    by_cases hlt : k < ms.length
    · obtain ⟨hc0, ao, ca, hc1, hv⟩ := (hs.below hb (Nat.le_refl _) L).at hlt
      have hz := L.size
      have L0 : Below wr.heap.size wr (wr.alloc (.cells #[.int .i64 (mid ms k), .slice ao (mat ms k).length ca] 29)) := (Below.refl _ _).alloc (Nat.le_refl _) _
      have hv0 := View.next hv L0
      have c0 : (wr.alloc (.cells #[.int .i64 (mid ms k), .slice ao (mat ms k).length ca] 29)).cell? ⟨wr.heap.size, 0, none⟩ = some (.int .i64 (mid ms k)) := by go_simp
      have c1 : (wr.alloc (.cells #[.int .i64 (mid ms k), .slice ao (mat ms k).length ca] 29)).cell? ⟨wr.heap.size, 1, none⟩ = some (.slice ao (mat ms k).length ca) := by go_simp
      have hsz : (wr.alloc (.cells #[.int .i64 (mid ms k), .slice ao (mat ms k).length ca] 29)).heap.size = wr.heap.size + 1 := by simp
      have HC := hidP (iMarkOk (mnth ms k) ao ca _ hv0 (hat k))
      have HLL := hidP (L.trans (L0.mono hz))
      clear L hv hv0 L0
      go_wp2_with fail
      refine HC.out.mono ?_
      rintro e w1 ⟨rfl, L1⟩
      replace c0 := (L1.cell (p := ⟨wr.heap.size, 0, none⟩) (by simp)).trans c0
      replace c1 := (L1.cell (p := ⟨wr.heap.size, 1, none⟩) (by simp)).trans c1
      have L2 := hidP (HLL.out.trans (L1.mono (by omega)))
      have hz1 := L1.size
      rw [hsz] at hz1
      clear L1 HLL HC hsz hc0 hc1
      rcases hg : goodM (mnth ms k) with _ | _
      · go_wp2_with fail
        go_ret
        exact ⟨ret_bool (marksB_out hlt (mOk_bad hg)).symm, L2.out⟩
      · have HG := hidP hg
        rcases Nat.eq_zero_or_pos k with h0 | h0
        · subst h0
          have hgd : decide ((0 : Int) < 0) = false := by decide
          go_wp2_with fail
          go_quiet (fail)
          go_wp2_with fail
          go_roundw
          case rel => exact ⟨1, by omega, by go_num, fun j hj => by rw [show j = 0 by omega]; exact mOk_zero HG.out, below_drewN L2.out _⟩
          case measure => simp [intOf]; omega
        · obtain ⟨j, rfl⟩ : ∃ j, k = j + 1 := ⟨k - 1, by omega⟩
          obtain ⟨he0, ao', ca', he1, -⟩ := (hs.below hb (Nat.le_refl _) L2.out).at (i := j) (by omega)
          have hj0 : (0 : Int) ≤ (j : Int) := Int.natCast_nonneg _
          have hj1 : (j : Int) < (ms.length : Int) := by omega
          have hwr : IntKind.i64.wrap (((j + 1 : Nat) : Int) - 1) = j := by rw [IntWalk.i64_in _ ⟨by omega, by omega⟩]; omega
          have hwr2 : IntKind.i64.wrap ((j : Int) + 1 - 1) = j := by rw [IntWalk.i64_in _ ⟨by omega, by omega⟩]; omega
          have hwr3 : IntKind.i64.wrap (j : Int) = j := IntWalk.i64_in _ ⟨by omega, by omega⟩
          have hgd : (0 : Int) < ((j + 1 : Nat) : Int) := by omega
          have hgd2 : (0 : Int) < (j : Int) + 1 := by omega
          have hbw : b < w1.heap.size := by omega
          have HF := hidP (iFollows (mnth ms (j + 1)) (mnth ms j) ao ao' ca ca' w1.drew)
          go_wp2_with fail
          go_region_held3 (fun w' => w'.cell? ⟨wr.heap.size, 0, none⟩ = some (.int .i64 (mid ms (j + 1))) ∧ w'.cell? ⟨wr.heap.size, 1, none⟩ = some (.slice ao (mat ms (j + 1)).length ca) ∧ w'.cell? ⟨b, off + j * 2, none⟩ = some (.int .i64 (mid ms j)) ∧ w'.cell? ⟨b, off + j * 2 + 1, none⟩ = some (.slice ao' (mat ms j).length ca'))
            (first
              | go_keep
              | (refine ⟨(L3.cell (p := ⟨wr.heap.size, 0, none⟩) (by simp; omega)).trans c0, (L3.cell (p := ⟨wr.heap.size, 1, none⟩) (by simp; omega)).trans c1, (L3.cell (p := ⟨b, off + j * 2, none⟩) hbw).trans he0, (L3.cell (p := ⟨b, off + j * 2 + 1, none⟩) hbw).trans he1⟩))
            (first
              | (go_at_call 214; refine HF.out.mono ?_; rintro e w2 ⟨rfl, L3⟩))
          have LF := hidP (L2.out.drew.trans (L3.mono (by simp; omega)))
          clear L3
          rcases hf : followsM (mnth ms (j + 1)) (mnth ms j) with _ | _
          · go_wp2
            go_ret
            exact ⟨ret_bool (marksB_out hlt (mOk_apart (HA.out j (by omega)) hf)).symm, LF.out⟩
          · go_wp2
            go_roundw
            case rel => exact ⟨j + 1 + 1, by omega, by go_num, fun i hi => by
              rcases Nat.lt_or_ge i (j + 1) with h | h
              · exact HA.out i h
              · rw [show i = j + 1 by omega]; exact mOk_next (HA.out j (by omega)) HG.out hf, LF.out⟩
            case measure => simp [intOf]; omega
    · go_wp2
      go_ret
      obtain rfl : k = ms.length := by omega
      exact ⟨ret_bool (Eq.symm (marksB_mk H60.out HA.out)), L⟩

theorem iMarks (ao : Option Addr) (cap : Nat) (ms : List Mk) (w : World) (hv : MView w ao ms) (hsm : MSmall ms) :
    Calls Tryz.prog 136 #[.slice ao ms.length cap] w fun e w' => e = .returned (.bool (marksB ms)) ∧ Below w.heap.size w w' := by
  rcases Nat.lt_or_ge 60 ms.length with h | h
  · refine (iMarks_long ao ms.length cap w h hsm.1).mono ?_
    rintro e w' ⟨rfl, rfl⟩
    exact ⟨ret_bool (marksB_long h).symm, Below.refl _ _⟩
  · rcases hv with rfl | ⟨b, off, rfl, hb, hs⟩
    · refine (iMarks_nil ao cap w).mono ?_
      rintro e w' ⟨rfl, rfl⟩
      exact ⟨rfl, Below.refl _ _⟩
    · exact iMarks_seg b off cap ms w hs hb hsm h

end Go.Proofs.YtaaagmgglolibaaGreat
namespace Go.Proofs.YtaaagmgglolibaaGreat
open Go Go.RowKit

def rolV (d : Int) : Int := if inR d 0 1000002 then (371 * d + 17) % 1000003 else -1
/-- How often four goes into it, k times at most. -/
def levF : Nat → Int → Nat
  | 0, _ => 0
  | k + 1, d => if 0 < d ∧ d % 4 = 0 then levF k (d / 4) + 1 else 0
def levV (d : Int) : Int := if inR d 0 1000002 then (levF 3 d : Int) else -1
theorem inR_iff {d lo hi : Int} : inR d lo hi = true ↔ lo ≤ d ∧ d ≤ hi := by simp [inR]
theorem rolV_in {d : Int} (h : inR d 0 1000002 = true) : rolV d = (371 * d + 17) % 1000003 := by simp [rolV, h]
theorem rolV_no {d : Int} (h : inR d 0 1000002 = false) : rolV d = -1 := by simp [rolV, h]
theorem levV_in {d : Int} (h : inR d 0 1000002 = true) : levV d = (levF 3 d : Int) := by simp [levV, h]
theorem levV_no {d : Int} (h : inR d 0 1000002 = false) : levV d = -1 := by simp [levV, h]
theorem rolV_lt {d : Int} (h : inR d 0 1000002 = true) : 0 ≤ rolV d ∧ rolV d ≤ 1000002 := by
  rw [rolV_in h]; omega
theorem levF_le (k : Nat) (d : Int) : levF k d ≤ k := by
  induction k generalizing d with
  | zero => simp [levF]
  | succ k ih => simp only [levF]; split <;> have := ih (d / 4) <;> omega
/-- The rest behind n times. -/
def divT (d : Int) : Nat → Int
  | 0 => d
  | n + 1 => divT d n / 4
theorem divT_bound (d : Int) (n : Nat) (h0 : 0 ≤ d) (h : d ≤ 1000002) : 0 ≤ divT d n ∧ divT d n ≤ 1000002 := by
  induction n with
  | zero => exact ⟨h0, h⟩
  | succ n ih => simp only [divT]; omega
/-- The step of a loop that counts. -/
theorem levF_step {k n : Nat} {d : Int} (e : levF 3 d = n + levF (k + 1) (divT d n)) (h : 0 < divT d n) (h4 : divT d n % 4 = 0) : levF 3 d = (n + 1) + levF k (divT d (n + 1)) := by
  rw [e]; simp only [levF, divT]; rw [if_pos ⟨h, h4⟩]; omega
theorem levF_stop {k n : Nat} {d : Int} (e : levF 3 d = n + levF k (divT d n)) (h : ¬ (0 < divT d n ∧ divT d n % 4 = 0)) : levF 3 d = n := by
  rw [e]; cases k with
  | zero => rfl
  | succ k => simp only [levF]; rw [if_neg h]; omega
end Go.Proofs.YtaaagmgglolibaaGreat
namespace Go.Proofs.YtaaagmgglolibaaGreat
open Go Go.RowKit

set_option maxRecDepth 100000 in
set_option maxHeartbeats 400000 in
theorem sDice15 (d : Int) (w : World) :
    Calls Tryz.prog 114 #[.int .i64 d] w fun e w' => e = .returned (.bool (inR d 0 1000002)) ∧ w' = w := by
  go_enter Tryz.func114, Tryz.ntmps114
  go_wp2_with fail
  refine (sIn d 0 1000002 _).mono ?_
  rintro e w1 ⟨rfl, rfl⟩
  go_wp2_with fail
  go_ret
  exact ⟨rfl, rfl⟩

set_option maxRecDepth 100000 in
set_option maxHeartbeats 400000 in
theorem iDice15 (d : Int) (w : World) :
    Calls Tryz.prog 111 #[.int .i64 d] w fun e w' => e = .returned (.bool (inR d 0 1000002)) ∧ w' = w := by
  by_cases h0 : d ≥ 0
  · by_cases h1 : d < 1000003
    · have HR : Hid (inR d 0 1000002 = true) := by show inR _ _ _ = _; rw [inR_iff]; omega
      go_enter Tryz.func111, Tryz.ntmps111
      go_wp2_with fail
      go_ret
      exact ⟨ret_bool (Eq.symm HR.out), rfl⟩
    · have HR : Hid (inR d 0 1000002 = false) := by show inR _ _ _ = _; rw [Bool.eq_false_iff, Ne, inR_iff]; omega
      go_enter Tryz.func111, Tryz.ntmps111
      go_wp2_with fail
      go_ret
      exact ⟨ret_bool (Eq.symm HR.out), rfl⟩
  · have HR : Hid (inR d 0 1000002 = false) := by show inR _ _ _ = _; rw [Bool.eq_false_iff, Ne, inR_iff]; omega
    go_enter Tryz.func111, Tryz.ntmps111
    go_wp2_with fail
    go_ret
    exact ⟨ret_bool (Eq.symm HR.out), rfl⟩

theorem roll_wrap {d : Int} (h : inR d 0 1000002 = true) : IntKind.i64.wrap (371 * d) = 371 * d ∧ IntKind.i64.wrap (371 * d + 17) = 371 * d + 17 ∧ (371 * d + 17).tmod 1000003 = rolV d ∧ IntKind.i64.wrap (rolV d) = rolV d := by
  have := inR_iff.1 h
  have hr := rolV_lt h
  refine ⟨IntWalk.i64_in _ ⟨by omega, by omega⟩, IntWalk.i64_in _ ⟨by omega, by omega⟩, ?_, IntWalk.i64_in _ ⟨by omega, by omega⟩⟩
  rw [rolV_in h, Int.tmod_eq_emod_of_nonneg (by omega)]

set_option maxRecDepth 100000 in
set_option maxHeartbeats 400000 in
theorem sRolled (d : Int) (w : World) :
    Calls Tryz.prog 30 #[.int .i64 d] w fun e w' => e = .returned (.int .i64 (rolV d)) ∧ w' = w := by
  rcases h : inR d 0 1000002 with _ | _
  · have HD := hidP (sDice15 d)
    rw [h] at HD
    have HR := hidP (rolV_no h)
    clear h
    go_enter Tryz.func30, Tryz.ntmps30
    go_wp2_with fail
    refine (HD.out _).mono ?_
    rintro e w1 ⟨rfl, rfl⟩
    go_wp2_with fail
    go_ret
    exact ⟨ret_int (Eq.symm HR.out), rfl⟩
  · have HD := hidP (sDice15 d)
    rw [h] at HD
    obtain ⟨e1, e2, e3, e4⟩ := roll_wrap h
    clear h
    go_enter Tryz.func30, Tryz.ntmps30
    go_wp2_with fail
    refine (HD.out _).mono ?_
    rintro e w1 ⟨rfl, rfl⟩
    go_wp2_with fail
    go_ret
    exact ⟨rfl, rfl⟩

set_option maxRecDepth 100000 in
set_option maxHeartbeats 400000 in
theorem iRolled (d : Int) (w : World) :
    Calls Tryz.prog 184 #[.int .i64 d] w fun e w' => e = .returned (.int .i64 (rolV d)) ∧ w' = w := by
  rcases h : inR d 0 1000002 with _ | _
  · have HD := hidP (iDice15 d)
    rw [h] at HD
    have HR := hidP (rolV_no h)
    clear h
    go_enter Tryz.func184, Tryz.ntmps184
    go_wp2_with fail
    refine (HD.out _).mono ?_
    rintro e w1 ⟨rfl, rfl⟩
    go_wp2_with fail
    go_ret
    exact ⟨ret_int (Eq.symm HR.out), rfl⟩
  · have HD := hidP (iDice15 d)
    rw [h] at HD
    obtain ⟨e1, e2, e3, e4⟩ := roll_wrap h
    clear h
    go_enter Tryz.func184, Tryz.ntmps184
    go_wp2_with fail
    refine (HD.out _).mono ?_
    rintro e w1 ⟨rfl, rfl⟩
    go_wp2_with fail
    go_ret
    exact ⟨rfl, rfl⟩

theorem lev_wrap {d : Int} {n : Nat} (h : inR d 0 1000002 = true) : IntKind.i64.wrap ((divT d n).tdiv 4) = divT d (n + 1) ∧ (divT d n).tdiv 4 = divT d (n + 1) ∧ (divT d n).tmod 4 = divT d n % 4 ∧ IntKind.i64.wrap (divT d n % 4) = divT d n % 4 := by
  obtain ⟨h0, h1⟩ := inR_iff.1 h
  have hb := divT_bound d n h0 h1
  have hb' := divT_bound d (n + 1) h0 h1
  have e : (divT d n).tdiv 4 = divT d (n + 1) := Int.tdiv_eq_ediv_of_nonneg hb.1
  refine ⟨?_, e, Int.tmod_eq_emod_of_nonneg hb.1, IntWalk.i64_in _ ⟨by omega, by omega⟩⟩
  rw [e]
  exact IntWalk.i64_in _ ⟨by omega, by omega⟩

set_option maxRecDepth 100000 in
set_option maxHeartbeats 1000000 in
theorem sLevel (d : Int) (w : World) :
    Calls Tryz.prog 28 #[.int .i64 d] w fun e w' => e = .returned (.int .i64 (levV d)) ∧ w' = w := by
  rcases h : inR d 0 1000002 with _ | _
  · have HD := hidP (sDice15 d)
    rw [h] at HD
    have HR := hidP (levV_no h)
    clear h
    go_enter Tryz.func28, Tryz.ntmps28
    go_wp2_with fail
    refine (HD.out _).mono ?_
    rintro e w1 ⟨rfl, rfl⟩
    go_wp2_with fail
    go_ret
    exact ⟨ret_int (Eq.symm HR.out), rfl⟩
  · have HD := hidP (sDice15 d)
    rw [h] at HD
    have HIN := hidP h
    clear h
    go_enter Tryz.func28, Tryz.ntmps28
    go_wp2_with fail
    refine (HD.out _).mono ?_
    rintro e w1 ⟨rfl, rfl⟩
    go_wp2_with fail
    go_loopw [0, 3] (fun dv nv wr => ∃ n : Nat, n ≤ 3 ∧ dv = .int .i64 (divT d n) ∧ nv = .int .i64 n ∧ levF 3 d = n + levF (3 - n) (divT d n) ∧ wr = w1) (fun dv nv _ => 3 - (intOf nv).toNat)
    case atStart => exact ⟨0, by omega, rfl, rfl, by simp [divT], rfl⟩
    case round =>
      obtain ⟨n, hn, rfl, rfl, hlv, rfl⟩ := hrel
      obtain ⟨e1, e2, e3, e4⟩ := lev_wrap (n := n) HIN.out
      have hb := divT_bound d n (inR_iff.1 HIN.out).1 (inR_iff.1 HIN.out).2
      have HYW : Hid (wrap64 (divT d (n + 1)) = divT d (n + 1)) := by
        show wrap64 _ = _
        have := divT_bound d (n + 1) (inR_iff.1 HIN.out).1 (inR_iff.1 HIN.out).2
        unfold wrap64
        omega
      have HLV := hidP hlv
      have hw1 : IntKind.i64.wrap ((n : Int) + 1) = ((n + 1 : Nat) : Int) := by rw [IntWalk.i64_in _ ⟨by omega, by omega⟩]; omega
      clear hlv
      have HEV := hidP (levV_in HIN.out)
      have HST : Hid (¬ (0 < divT d n ∧ divT d n % 4 = 0) → levF 3 d = n) := fun hc => levF_stop HLV.out hc
      have HS3 : Hid (n = 3 → levF 3 d = n) := fun hc => by have := HLV.out; subst hc; simpa [levF] using this
      have HSU : Hid (n < 3 → 0 < divT d n → divT d n % 4 = 0 → levF 3 d = (n + 1) + levF (3 - (n + 1)) (divT d (n + 1))) := fun h3 hp hm => by
        have e := HLV.out
        rw [show 3 - n = (3 - (n + 1)) + 1 by omega] at e
        exact levF_step e hp hm
      clear HLV
      by_cases h3 : n < 3
      · have h3i : (n : Int) < 3 := by omega
        by_cases hp : divT d n > 0
        · rcases hm : divT d n % 4 == 0 with _ | _
          · have hmn : divT d n % 4 ≠ 0 := by simpa using hm
            have HL := hidP (HST.out (by omega))
            clear hmn
            generalize divT d n = x at *
            generalize divT d (n + 1) = y at *
            go_wp2_with fail
            go_ret
            exact ⟨ret_int (by rw [HEV.out, HL.out]), rfl⟩
          · have hmn : divT d n % 4 = 0 := by simpa using hm
            have HL := hidP (HSU.out h3 hp hmn)
            clear hmn
            generalize hx : divT d n = x at *
            generalize hy : divT d (n + 1) = y at *
            have HY := hidP hy
            clear hx hy
            go_wp2_with fail
            go_roundw
            case rel => exact ⟨n + 1, by omega, by rw [HY.out]; first | rfl | exact congrArg _ HYW.out, by first | trivial | rfl, by rw [HY.out]; exact HL.out, by first | trivial | rfl⟩
            case measure => simp [intOf]; omega
        · have HL := hidP (HST.out (by omega))
          generalize divT d n = x at *
          generalize divT d (n + 1) = y at *
          go_wp2_with fail
          go_ret
          exact ⟨ret_int (by rw [HEV.out, HL.out]), rfl⟩
      · have HL := hidP (HS3.out (by omega))
        have h3i : ¬ (n : Int) < 3 := by omega
        by_cases hp : divT d n > 0
        · rcases hm : divT d n % 4 == 0 with _ | _
          · generalize divT d n = x at *
            generalize divT d (n + 1) = y at *
            go_wp2_with fail
            go_ret
            exact ⟨ret_int (by rw [HEV.out, HL.out]), rfl⟩
          · generalize divT d n = x at *
            generalize divT d (n + 1) = y at *
            go_wp2_with fail
            go_ret
            exact ⟨ret_int (by rw [HEV.out, HL.out]), rfl⟩
        · generalize divT d n = x at *
          generalize divT d (n + 1) = y at *
          go_wp2_with fail
          go_ret
          exact ⟨ret_int (by rw [HEV.out, HL.out]), rfl⟩

set_option maxRecDepth 100000 in
set_option maxHeartbeats 1000000 in
theorem iLevel (d : Int) (w : World) :
    Calls Tryz.prog 102 #[.int .i64 d] w fun e w' => e = .returned (.int .i64 (levV d)) ∧ w' = w := by
  rcases h : inR d 0 1000002 with _ | _
  · have HD := hidP (iDice15 d)
    rw [h] at HD
    have HR := hidP (levV_no h)
    clear h
    go_enter Tryz.func102, Tryz.ntmps102
    go_wp2_with fail
    refine (HD.out _).mono ?_
    rintro e w1 ⟨rfl, rfl⟩
    go_wp2_with fail
    go_ret
    exact ⟨ret_int (Eq.symm HR.out), rfl⟩
  · have HD := hidP (iDice15 d)
    rw [h] at HD
    have HIN := hidP h
    clear h
    go_enter Tryz.func102, Tryz.ntmps102
    go_wp2_with fail
    refine (HD.out _).mono ?_
    rintro e w1 ⟨rfl, rfl⟩
    go_wp2_with fail
    go_loopw [3, 4] (fun nv dv wr => ∃ n : Nat, n ≤ 3 ∧ dv = .int .i64 (divT d n) ∧ nv = .int .i64 n ∧ levF 3 d = n + levF (3 - n) (divT d n) ∧ wr = w1) (fun nv dv _ => 3 - (intOf nv).toNat)
    case atStart => exact ⟨0, by omega, rfl, rfl, by simp [divT], rfl⟩
    case round =>
      obtain ⟨n, hn, rfl, rfl, hlv, rfl⟩ := hrel
      obtain ⟨e1, e2, e3, e4⟩ := lev_wrap (n := n) HIN.out
      have hb := divT_bound d n (inR_iff.1 HIN.out).1 (inR_iff.1 HIN.out).2
      have HYW : Hid (wrap64 (divT d (n + 1)) = divT d (n + 1)) := by
        show wrap64 _ = _
        have := divT_bound d (n + 1) (inR_iff.1 HIN.out).1 (inR_iff.1 HIN.out).2
        unfold wrap64
        omega
      have HLV := hidP hlv
      have hw1 : IntKind.i64.wrap ((n : Int) + 1) = ((n + 1 : Nat) : Int) := by rw [IntWalk.i64_in _ ⟨by omega, by omega⟩]; omega
      clear hlv
      have HEV := hidP (levV_in HIN.out)
      have HST : Hid (¬ (0 < divT d n ∧ divT d n % 4 = 0) → levF 3 d = n) := fun hc => levF_stop HLV.out hc
      have HS3 : Hid (n = 3 → levF 3 d = n) := fun hc => by have := HLV.out; subst hc; simpa [levF] using this
      have HSU : Hid (n < 3 → 0 < divT d n → divT d n % 4 = 0 → levF 3 d = (n + 1) + levF (3 - (n + 1)) (divT d (n + 1))) := fun h3 hp hm => by
        have e := HLV.out
        rw [show 3 - n = (3 - (n + 1)) + 1 by omega] at e
        exact levF_step e hp hm
      clear HLV
      by_cases h3 : n < 3
      · have h3i : (n : Int) < 3 := by omega
        by_cases hp : divT d n > 0
        · rcases hm : divT d n % 4 == 0 with _ | _
          · have hmn : divT d n % 4 ≠ 0 := by simpa using hm
            have HL := hidP (HST.out (by omega))
            clear hmn
            generalize divT d n = x at *
            generalize divT d (n + 1) = y at *
            go_wp2_with fail
            go_ret
            exact ⟨ret_int (by rw [HEV.out, HL.out]), rfl⟩
          · have hmn : divT d n % 4 = 0 := by simpa using hm
            have HL := hidP (HSU.out h3 hp hmn)
            clear hmn
            generalize hx : divT d n = x at *
            generalize hy : divT d (n + 1) = y at *
            have HY := hidP hy
            clear hx hy
            go_wp2_with fail
            go_roundw
            case rel => exact ⟨n + 1, by omega, by rw [HY.out]; first | rfl | exact congrArg _ HYW.out, by first | trivial | rfl, by rw [HY.out]; exact HL.out, by first | trivial | rfl⟩
            case measure => simp [intOf]; omega
        · have HL := hidP (HST.out (by omega))
          generalize divT d n = x at *
          generalize divT d (n + 1) = y at *
          go_wp2_with fail
          go_ret
          exact ⟨ret_int (by rw [HEV.out, HL.out]), rfl⟩
      · have HL := hidP (HS3.out (by omega))
        have h3i : ¬ (n : Int) < 3 := by omega
        generalize divT d n = x at *
        generalize divT d (n + 1) = y at *
        go_wp2_with fail
        go_ret
        exact ⟨ret_int (by rw [HEV.out, HL.out]), rfl⟩
end Go.Proofs.YtaaagmgglolibaaGreat
