/-
  The laws' own helpers over rows of sessions: szThreadS, toThreadS (a copy), eqThreadS (are two alike).
  The laws' own helpers: what is written into sessions is held, in their own block alone.
-/
import Derived.Test.YtbmljcpeonopmaaAppendZz
import Derived.Test.YtbmljcpeonopmaaMSizeZz
import Derived.Deep.RegionHeld3
import Derived.Test.YtbmljcpeonopmaaMCopyZz
import Derived.Test.YtbmljcpeonopmaaMHighZz
namespace Go.Proofs.Ytbmljcpeonopmaa
open Go Go.RowKit

set_option maxHeartbeats 400000 in
theorem szTSS7 (ao : Option Addr) (n cap : Nat) (left : Int) (w : World) (hn : n ≤ maxLen) (h0 : 0 ≤ left) (h1 : left ≤ 1048576) :
    Calls Try.prog 52 #[.slice ao n cap, .int .i64 left] w fun e w' => e = .returned (.int .i64 (cutV left n)) ∧ w' = w := by
  unfold maxLen at hn
  by_cases h : left < n
  · have hv : cutV left n = -1 := by unfold cutV; rw [if_pos h]
    have ht : left - n < 0 := by omega
    go_enter Try.func52, Try.ntmps52
    go_wp2
    go_ret
    exact ⟨ret_int hv.symm, rfl⟩
  · have hv : cutV left n = left - n := by unfold cutV; rw [if_neg h]
    have HV := hidP hv
    clear hv
    have ht : ¬ left - n < 0 := by omega
    go_enter Try.func52, Try.ntmps52
    go_wp2
    go_ret
    exact ⟨ret_int HV.out.symm, rfl⟩

theorem tCells_setS7 (l : List ThS7) (k : Nat) (x : ThS7) : (((tCellsS7 l).set (k * 3) (.int .i64 x.1)).set (k * 3 + 1) (.int .i64 x.2.1)).set (k * 3 + 2) (.int .i64 x.2.2) = tCellsS7 (l.set k x) := by
  induction l generalizing k with
  | nil => simp [tCellsS7]
  | cons d ds ih =>
    cases k with
    | zero => rfl
    | succ k =>
      rw [show (k + 1) * 3 = k * 3 + 1 + 1 + 1 by omega, show k * 3 + 1 + 1 + 1 + 1 = (k * 3 + 1) + 1 + 1 + 1 by omega, show k * 3 + 1 + 1 + 1 + 2 = (k * 3 + 2) + 1 + 1 + 1 by omega]
      simp only [tCellsS7, List.set_cons_succ, ih]
theorem tCells_repS7 (n : Nat) : tCellsS7 (List.replicate n (0, 0, 0)) = List.replicate (n * 3) (.int .i64 0) := by
  induction n with
  | zero => rfl
  | succ n ih => rw [show (n + 1) * 3 = n * 3 + 1 + 1 + 1 by omega]; simp [List.replicate_succ, tCellsS7, ih]
/-- One thread of a row is written over. -/
theorem TRowS7.store {base : Nat} {w : World} {g c : Nat} {l : List ThS7} (h : TRowS7 base w g c l) (k : Nat) (x : ThS7) :
    TRowS7 base (((w.setCell ⟨g, k * 3, none⟩ (.int .i64 x.1)).setCell ⟨g, k * 3 + 1, none⟩ (.int .i64 x.2.1)).setCell ⟨g, k * 3 + 2, none⟩ (.int .i64 x.2.2)) g c (l.set k x) := by
  have h1 := (World.ownsRow.stored h (k * 3) (.int .i64 x.1)).1
  have h2 := (World.ownsRow.stored h1 (k * 3 + 1) (.int .i64 x.2.1)).1
  have h3 := (World.ownsRow.stored h2 (k * 3 + 2) (.int .i64 x.2.2)).1
  rw [tCells_setS7] at h3
  unfold TRowS7
  rw [List.length_set]
  exact h3
theorem t_take_snocS7 {ts : List ThS7} {k : Nat} (h : k < ts.length) : ts.take (k + 1) = ts.take k ++ [tnthS7 ts k] := by rw [List.take_succ_eq_append_getElem h, tnth_getS7 h]
def fillTS7 (hs : List ThS7) (k : Nat) : List ThS7 := hs.take k ++ List.replicate (hs.length - k) (0, 0, 0)
theorem fillT_lengthS7 (hs : List ThS7) (k : Nat) (h : k ≤ hs.length) : (fillTS7 hs k).length = hs.length := by simp [fillTS7]; omega
theorem fillT_zeroS7 (hs : List ThS7) : fillTS7 hs 0 = List.replicate hs.length (0, 0, 0) := by simp [fillTS7]
theorem fillT_allS7 (hs : List ThS7) : fillTS7 hs hs.length = hs := by simp [fillTS7]
theorem fillT_setS7 (hs : List ThS7) (k : Nat) (h : k < hs.length) : (fillTS7 hs k).set k (tnthS7 hs k) = fillTS7 hs (k + 1) := by
  unfold fillTS7
  rw [List.set_append_right _ _ (by simp; omega), t_take_snocS7 h, show (hs.take k).length = k by simp; omega, Nat.sub_self]
  rw [show hs.length - k = (hs.length - (k + 1)) + 1 by omega, List.replicate_succ, List.set_cons_zero]
  simp
theorem made_rep3S7 (n : Nat) : (madeCells #[.int .i64 0, .int .i64 0, .int .i64 0] (n * 3)).toList = tCellsS7 (List.replicate n (0, 0, 0)) := by
  rw [tCells_repS7]
  apply List.ext_getElem
  · simp [size_madeCells]
  · intro i h1 h2
    have hm : i % 3 = 0 ∨ i % 3 = 1 ∨ i % 3 = 2 := by omega
    rcases hm with h | h | h <;> simp [madeCells, h]
theorem TRowS7.made (w : World) (n : Nat) (hn : n ≤ maxLen) : TRowS7 w.heap.size (w.alloc (.cells (madeCells #[.int .i64 0, .int .i64 0, .int .i64 0] (n * 3)) 92)) w.heap.size n (List.replicate n (0, 0, 0)) := by
  have h := World.ownsRow_lit (base := w.heap.size) (e := 92) (size := 3) w (madeCells #[.int .i64 0, .int .i64 0, .int .i64 0] (n * 3)) n (Nat.le_refl _) hn (size_madeCells _ _)
  rw [made_rep3S7] at h
  exact TRowS7.of h (by simp) rfl

set_option maxHeartbeats 400000 in
theorem toTS7 (m : ThS7) (w : World) :
    Calls Try.prog 83 #[.agg #[.int .i64 m.1, .int .i64 m.2.1, .int .i64 m.2.2]] w fun e w' => e = .returned (.agg #[.int .i64 m.1, .int .i64 m.2.1, .int .i64 m.2.2]) ∧ Below w.heap.size w w' := by
  go_enter Try.func83, Try.ntmps83
  go_wp2_with fail
  refine bodyPost_ret (v := .agg #[.int .i64 m.1, .int .i64 m.2.1, .int .i64 m.2.2]) (by simp [results, Try.results83, go_sem]) rfl ?_
  exact ⟨rfl, (((Below.refl _ _).alloc (Nat.le_refl _) _).alloc (by simp) _).alloc (by simp; omega) _⟩

set_option maxHeartbeats 800000 in
theorem toTS_segS7 (b off cap : Nat) (hs : List ThS7) (w : World) (hseg : TSegS7 w b off hs) (hb : b < w.heap.size) (hn : hs.length ≤ 1048576) :
    Calls Try.prog 53 #[.slice (some ⟨b, off, none⟩) hs.length cap] w fun e w' => e = .returned (.slice (some ⟨w.heap.size, 0, none⟩) hs.length hs.length) ∧ TRowS7 w.heap.size w' w.heap.size hs.length hs ∧ Below w.heap.size w w' := by
  have hmk := run_make_rows (P := Try.prog) 55 92 (.agg #[.int .i64 0, .int .i64 0, .int .i64 0]) 3 24 Try.underlying55 (by kernel_rfl) .i64 .i64 hs.length (by omega) (by omega)
  have R0 := hidP (TRowS7.made w hs.length (by unfold maxLen; omega))
  rw [← fillT_zeroS7] at R0
  go_enter Try.func53, Try.ntmps53
  go_wp2
  clear hmk
  go_loopw [4] (fun i wr => ∃ k : Nat, k ≤ hs.length ∧ i = .int .i64 k ∧ TRowS7 w.heap.size wr w.heap.size hs.length (fillTS7 hs k) ∧ Below w.heap.size w wr) (fun i _ => hs.length - (intOf i).toNat)
  case atStart => exact ⟨0, Nat.zero_le _, rfl, R0.out, (Below.refl _ _).alloc (Nat.le_refl _) _⟩
  case round =>
    obtain ⟨k, hk, rfl, hr, L⟩ := hrel
    by_cases hlt : k < hs.length
    · obtain ⟨hc0, hc1, hc2⟩ := (hseg.below hb L) k hlt
      have hz := L.size
      have hp1 := hr.lt.2
      have HR := hidP hr
      have HL := hidP L
      clear hr L
      go_wp2_with fail
      refine (toTS7 (tnthS7 hs k) _).mono ?_
      rintro e w1 ⟨rfl, L1⟩
      have hr1 := HR.out.below (Nat.le_refl _) L1
      have L2 := HL.out.trans (L1.mono hz)
      have hfl := fillT_lengthS7 hs k (by omega)
      obtain ⟨e0, e1, e2⟩ := hr1.seg k (by omega)
      rw [Nat.zero_add] at e0 e1 e2
      have f0 := World.ownsRow.frozenAt hr1 (k * 3)
      have f1 := World.ownsRow.frozenAt hr1 (k * 3 + 1)
      have f2 := World.ownsRow.frozenAt hr1 (k * 3 + 2)
      have HS := hidP (hr1.store k (tnthS7 hs k))
      rw [fillT_setS7 hs k hlt] at HS
      have HL2 := hidP L2
      clear hr1 L1 L2 hfl hc0 hc1 hc2
      go_wp2_with fail
      go_roundw
      case rel => exact ⟨k + 1, by omega, by go_num, HS.out, ((HL2.out.setCell (by simp) _).setCell (by simp) _).setCell (by simp) _⟩
      case measure => simp [intOf]; omega
    · go_wp2
      go_ret
      obtain rfl : k = hs.length := by omega
      rw [fillT_allS7] at hr
      exact ⟨rfl, hr, L⟩

set_option maxHeartbeats 400000 in
theorem toTS_nilS7 (ao : Option Addr) (cap : Nat) (w : World) :
    Calls Try.prog 53 #[.slice ao 0 cap] w fun e w' => e = .returned (.slice (some ⟨w.heap.size, 0, none⟩) 0 0) ∧ w' = w.alloc (.cells #[] 92) := by
  have hmk : ∀ w, (Instr.makeSlice 55 (.int .i64 0) (.int .i64 0)).run Try.prog w = .ok (.slice (some ⟨w.heap.size, 0, none⟩) 0 0) (w.alloc (.cells #[] 92)) := fun _ => by kernel_rfl
  go_enter Try.func53, Try.ntmps53
  go_wp2
  clear hmk
  refine wp_loop_rounds 1 ?_
  rw [rounds_succ]
  go_wp2
  go_ret
  exact ⟨rfl, rfl⟩

/-- toHitS: new hits that read as what was given. -/
theorem toTSS7 (ao : Option Addr) (cap : Nat) (hs : List ThS7) (w : World) (hv : TViewS7 w ao hs) (hn : hs.length ≤ 1048576) :
    Calls Try.prog 53 #[.slice ao hs.length cap] w fun e w' => ∃ b, e = .returned (.slice (some ⟨b, 0, none⟩) hs.length hs.length) ∧ TRowS7 w.heap.size w' b hs.length hs ∧ Below w.heap.size w w' := by
  rcases hv with rfl | ⟨b, off, rfl, hb, hseg⟩
  · refine (toTS_nilS7 ao cap w).mono ?_
    rintro e w' ⟨rfl, rfl⟩
    exact ⟨_, rfl, TRowS7.start w _ (Nat.le_refl _), (Below.refl _ _).alloc (Nat.le_refl _) _⟩
  · refine (toTS_segS7 b off cap hs w hseg hb hn).mono ?_
    rintro e w' ⟨rfl, hr, L⟩
    exact ⟨_, rfl, hr, L⟩

set_option maxHeartbeats 400000 in
theorem eqTS7 (m m' : ThS7) (w : World) :
    Calls Try.prog 85 #[.agg #[.int .i64 m.1, .int .i64 m.2.1, .int .i64 m.2.2], .agg #[.int .i64 m'.1, .int .i64 m'.2.1, .int .i64 m'.2.2]] w fun e w' => e = .returned (.bool (decide (m = m'))) ∧ Below w.heap.size w w' := by
  have L0 : Below w.heap.size w ((w.alloc (.cells #[.int .i64 m.1, .int .i64 m.2.1, .int .i64 m.2.2] 92)).alloc (.cells #[.int .i64 m'.1, .int .i64 m'.2.1, .int .i64 m'.2.2] 92)) :=
    ((Below.refl _ _).alloc (Nat.le_refl _) _).alloc (by simp) _
  by_cases h : m.1 = m'.1
  · have hb : (m.1 != m'.1) = false := by simp [h]
    by_cases h2 : m.2.1 = m'.2.1
    · have hb2 : (m.2.1 != m'.2.1) = false := by simp [h2]
      by_cases h3 : m.2.2 = m'.2.2
      · have hb3 : (m.2.2 != m'.2.2) = false := by simp [h3]
        have HM := hidP (decide_eq_true (Prod.ext h (Prod.ext h2 h3) : m = m'))
        clear h h2 h3
        go_enter Try.func85, Try.ntmps85
        go_wp2_with fail
        go_ret
        exact ⟨ret_bool HM.out.symm, L0⟩
      · have hb3 : (m.2.2 != m'.2.2) = true := by simp [h3]
        have HM := hidP (decide_eq_false (fun e : m = m' => h3 (by rw [e])))
        clear h h2 h3
        go_enter Try.func85, Try.ntmps85
        go_wp2_with fail
        go_ret
        exact ⟨ret_bool HM.out.symm, L0⟩
    · have hb2 : (m.2.1 != m'.2.1) = true := by simp [h2]
      have HM := hidP (decide_eq_false (fun e : m = m' => h2 (by rw [e])))
      clear h h2
      go_enter Try.func85, Try.ntmps85
      go_wp2_with fail
      go_ret
      exact ⟨ret_bool HM.out.symm, L0⟩
  · have hb : (m.1 != m'.1) = true := by simp [h]
    have HM := hidP (decide_eq_false (fun e : m = m' => h (by rw [e])))
    clear h
    go_enter Try.func85, Try.ntmps85
    go_wp2_with fail
    go_ret
    exact ⟨ret_bool HM.out.symm, L0⟩

set_option maxHeartbeats 400000 in
theorem eqTS_neS7 (ao ao' : Option Addr) (n n' cap cap' : Nat) (w : World) (h : n ≠ n') :
    Calls Try.prog 55 #[.slice ao n cap, .slice ao' n' cap'] w fun e w' => e = .returned (.bool false) ∧ w' = w := by
  have hlb : ((n : Int) != (n' : Int)) = true := by simp; omega
  go_enter Try.func55, Try.ntmps55
  go_wp2
  go_ret
  exact ⟨rfl, rfl⟩

set_option maxHeartbeats 1000000 in
theorem eqTS_lenS7 (ao ao' : Option Addr) (cap cap' : Nat) (ms ns : List ThS7) (w : World) (hv : TViewS7 w ao ms) (hv' : TViewS7 w ao' ns) (hn : ms.length ≤ 4194304) (hl : ms.length = ns.length) :
    Calls Try.prog 55 #[.slice ao ms.length cap, .slice ao' ns.length cap'] w fun e w' => e = .returned (.bool (decide (ms = ns))) ∧ Below w.heap.size w w' := by
  have hlb : ((ms.length : Int) != (ns.length : Int)) = false := by simp [hl]
  have HL : Hid (ms.length = ns.length) := hl
  have hn' : ns.length ≤ 4194304 := by omega
  clear hl
  go_enter Try.func55, Try.ntmps55
  go_wp2
  go_loopw [5] (fun i wr => ∃ k : Nat, k ≤ ms.length ∧ i = .int .i64 k ∧ (∀ j, j < k → tnthS7 ms j = tnthS7 ns j) ∧ Below w.heap.size w wr) (fun i _ => ms.length - (intOf i).toNat)
  case atStart => exact ⟨0, Nat.zero_le _, rfl, fun j hj => by omega, Below.refl _ _⟩
  case round =>
    obtain ⟨k, hk, rfl, hall, L⟩ := hrel
    have HA := hidP hall
    clear hall
    by_cases hlt : k < ms.length
    · have hlt' : k < ns.length := by have := HL.out; omega
      obtain ⟨b, off, rfl, hb, hs⟩ := hv.seg (by omega)
      obtain ⟨b', off', rfl, hb', hs'⟩ := hv'.seg (by omega)
      obtain ⟨hc0, hc1, hc2⟩ := (hs.below hb L) k hlt
      obtain ⟨hd0, hd1, hd2⟩ := (hs'.below hb' L) k hlt'
      have hi0 : (0 : Int) ≤ (k : Int) := Int.natCast_nonneg _
      have hi1 : (k : Int) < (ms.length : Int) := by omega
      have hi2 : (k : Int) < (ns.length : Int) := by omega
      have hz := L.size
      have hbw : b < wr.heap.size := by omega
      have hbw' : b' < wr.heap.size := by omega
      have HC := hidP (eqTS7 (tnthS7 ms k) (tnthS7 ns k) wr.drew)
      have HLL := hidP L
      clear L hs hs'
      go_wp2
      go_region_held3 (fun w' => w'.cell? ⟨b, off + k * 3, none⟩ = some (.int .i64 (tnthS7 ms k).1) ∧ w'.cell? ⟨b, off + k * 3 + 1, none⟩ = some (.int .i64 (tnthS7 ms k).2.1) ∧ w'.cell? ⟨b, off + k * 3 + 2, none⟩ = some (.int .i64 (tnthS7 ms k).2.2) ∧ w'.cell? ⟨b', off' + k * 3, none⟩ = some (.int .i64 (tnthS7 ns k).1) ∧ w'.cell? ⟨b', off' + k * 3 + 1, none⟩ = some (.int .i64 (tnthS7 ns k).2.1) ∧ w'.cell? ⟨b', off' + k * 3 + 2, none⟩ = some (.int .i64 (tnthS7 ns k).2.2))
        (first
          | go_keep
          | (refine ⟨(L1.cell (p := ⟨b, off + k * 3, none⟩) hbw).trans hc0, (L1.cell (p := ⟨b, off + k * 3 + 1, none⟩) hbw).trans hc1, (L1.cell (p := ⟨b, off + k * 3 + 2, none⟩) hbw).trans hc2, (L1.cell (p := ⟨b', off' + k * 3, none⟩) hbw').trans hd0, (L1.cell (p := ⟨b', off' + k * 3 + 1, none⟩) hbw').trans hd1, (L1.cell (p := ⟨b', off' + k * 3 + 2, none⟩) hbw').trans hd2⟩))
        (first
          | (go_at_call 85; refine HC.out.mono ?_; rintro e w1 ⟨rfl, L1⟩))
      have LF := hidP (HLL.out.drew.trans (L1.mono hz))
      clear L1
      by_cases he : tnthS7 ms k = tnthS7 ns k
      · have heb : decide (tnthS7 ms k = tnthS7 ns k) = true := by simp [he]
        have HE := hidP he
        clear he
        generalize decide (tnthS7 ms k = tnthS7 ns k) = d at *
        subst heb
        go_wp2
        go_roundw
        case rel => exact ⟨k + 1, by omega, by go_num, fun j hj => by
          rcases Nat.lt_or_ge j k with h | h
          · exact HA.out j h
          · rw [show j = k by omega]; exact HE.out, LF.out⟩
        case measure => simp [intOf]; omega
      · have heb : decide (tnthS7 ms k = tnthS7 ns k) = false := by simp [he]
        have HE := hidP he
        clear he
        generalize decide (tnthS7 ms k = tnthS7 ns k) = d at *
        subst heb
        go_wp2
        go_ret
        exact ⟨ret_bool (Eq.symm (decide_eq_false (fun h => HE.out (by rw [h])))), LF.out⟩
    · go_wp2
      go_ret
      obtain rfl : k = ms.length := by omega
      exact ⟨ret_bool (Eq.symm (decide_eq_true (ts_eqS7 HL.out HA.out))), L⟩

/-- eqHitS: are two alike. -/
theorem eqTSS7 (ao ao' : Option Addr) (cap cap' : Nat) (ms ns : List ThS7) (w : World) (hv : TViewS7 w ao ms) (hv' : TViewS7 w ao' ns) (hn : ms.length ≤ 4194304) :
    Calls Try.prog 55 #[.slice ao ms.length cap, .slice ao' ns.length cap'] w fun e w' => e = .returned (.bool (decide (ms = ns))) ∧ Below w.heap.size w w' := by
  by_cases hl : ms.length = ns.length
  · exact eqTS_lenS7 ao ao' cap cap' ms ns w hv hv' hn hl
  · refine (eqTS_neS7 ao ao' ms.length ns.length cap cap' w hl).mono ?_
    rintro e w' ⟨rfl, rfl⟩
    exact ⟨ret_bool (Eq.symm (decide_eq_false (fun h => hl (by rw [h])))), Below.refl _ _⟩

end Go.Proofs.Ytbmljcpeonopmaa
namespace Go.Proofs.Ytbmljcpeonopmaa
open Go Go.RowKit

def seqTS7 (k0 : Int) (n : Nat) : List ThS7 := (List.range n).map fun (i : Nat) => (k0 + 3 * (i : Int), k0 + 3 * (i : Int) + 1, k0 + 3 * (i : Int) + 1 + 1)
def overTS7 (k0 : Int) (hs : List ThS7) (k : Nat) : List ThS7 := seqTS7 k0 k ++ hs.drop k
theorem seqT_lengthS7 (k0 : Int) (n : Nat) : (seqTS7 k0 n).length = n := by simp [seqTS7]
theorem seqT_atS7 (k0 : Int) (n i : Nat) (h : i < n) : tnthS7 (seqTS7 k0 n) i = (k0 + 3 * (i : Int), k0 + 3 * (i : Int) + 1, k0 + 3 * (i : Int) + 1 + 1) := by simp [tnthS7, seqTS7, List.getD, h]
theorem overT_lengthS7 (k0 : Int) (hs : List ThS7) (k : Nat) (h : k ≤ hs.length) : (overTS7 k0 hs k).length = hs.length := by simp [overTS7, seqT_lengthS7]; omega
theorem overT_zeroS7 (k0 : Int) (hs : List ThS7) : overTS7 k0 hs 0 = hs := by simp [overTS7, seqTS7]
theorem overT_allS7 (k0 : Int) (hs : List ThS7) : overTS7 k0 hs hs.length = seqTS7 k0 hs.length := by simp [overTS7]
theorem overT_setS7 (k0 : Int) (hs : List ThS7) (k : Nat) (h : k < hs.length) : (overTS7 k0 hs k).set k (k0 + 3 * (k : Int), k0 + 3 * (k : Int) + 1, k0 + 3 * (k : Int) + 1 + 1) = overTS7 k0 hs (k + 1) := by
  unfold overTS7
  have e : seqTS7 k0 (k + 1) = seqTS7 k0 k ++ [(k0 + 3 * (k : Int), k0 + 3 * (k : Int) + 1, k0 + 3 * (k : Int) + 1 + 1)] := by simp [seqTS7, List.range_succ]
  rw [List.set_append_right _ _ (by rw [seqT_lengthS7]; exact Nat.le_refl _), seqT_lengthS7, Nat.sub_self, e, List.drop_eq_getElem_cons h, List.set_cons_zero]
  simp

set_option maxHeartbeats 800000 in
theorem markTSS7 (base g c : Nat) (k0 : Int) (hs : List ThS7) (w : World) (hr : TRowS7 base w g c hs) (hn : hs.length ≤ 4194304) (h0 : 1 ≤ k0) (h1 : k0 ≤ 10000000) :
    Calls Try.prog 58 #[.slice (some ⟨g, 0, none⟩) hs.length c, .int .i64 k0] w fun e w' => e = .returned (.int .i64 (k0 + 3 * (hs.length : Int))) ∧ TRowS7 base w' g c (seqTS7 k0 hs.length) ∧ w.grownBy w' (some g) := by
  go_enter Try.func58, Try.ntmps58
  go_wp2
  go_loopw [1, 5] (fun kk i wr => ∃ k : Nat, k ≤ hs.length ∧ i = .int .i64 k ∧ kk = .int .i64 (k0 + 3 * (k : Int)) ∧ TRowS7 base wr g c (overTS7 k0 hs k) ∧ w.grownBy wr (some g)) (fun _ i _ => hs.length - (intOf i).toNat)
  case atStart => exact ⟨0, Nat.zero_le _, rfl, by simp, by rw [overT_zeroS7]; exact hr, grown_refl _ _⟩
  case round =>
    obtain ⟨k, hk, rfl, rfl, hro, hg⟩ := hrel
    by_cases hlt : k < hs.length
    · have hl := overT_lengthS7 k0 hs k hk
      obtain ⟨c0, c1, c2⟩ := hro.seg k (by omega)
      rw [Nat.zero_add] at c0 c1 c2
      have f0 := World.ownsRow.frozenAt hro (k * 3)
      have f1 := World.ownsRow.frozenAt hro (k * 3 + 1)
      have f2 := World.ownsRow.frozenAt hro (k * 3 + 2)
      have R1 := hro.store k (k0 + 3 * (k : Int), k0 + 3 * (k : Int) + 1, k0 + 3 * (k : Int) + 1 + 1)
      rw [overT_setS7 k0 hs k hlt] at R1
      have HR := hidP R1
      have HG := hidP hg
      clear R1 hro hg hl
      go_wp2
      go_roundw
      case rel => exact ⟨k + 1, by omega, by go_num, by congr 1; omega, HR.out, grown_set (grown_set (grown_set HG.out))⟩
      case measure => simp [intOf]; omega
    · go_wp2
      go_ret
      obtain rfl : k = hs.length := by omega
      exact ⟨rfl, by rw [← overT_allS7]; exact hro, hg⟩

set_option maxHeartbeats 800000 in
theorem heldTSS7 (ao : Option Addr) (cap n : Nat) (k0 : Int) (w : World) (hv : TViewS7 w ao (seqTS7 k0 n)) (hn : n ≤ 4194304) (h0 : 1 ≤ k0) (h1 : k0 ≤ 10000000) :
    Calls Try.prog 59 #[.slice ao n cap, .int .i64 k0] w fun e w' => e = .returned (.int .i64 (k0 + 3 * (n : Int))) ∧ w' = w := by
  go_enter Try.func59, Try.ntmps59
  go_wp2
  go_loop [1, 5] (fun kk i => ∃ k : Nat, k ≤ n ∧ i = .int .i64 k ∧ kk = .int .i64 (k0 + 3 * (k : Int))) (fun _ i => n - (intOf i).toNat)
  case atStart => exact ⟨0, Nat.zero_le _, rfl, by simp⟩
  case round =>
    obtain ⟨k, hk, rfl, rfl⟩ := hrel
    by_cases hlt : k < n
    · obtain ⟨b, off, rfl, hb, hseg⟩ := hv.seg (by rw [seqT_lengthS7]; omega)
      obtain ⟨c0, c1, c2⟩ := hseg k (by rw [seqT_lengthS7]; exact hlt)
      rw [seqT_atS7 k0 n k hlt] at c0 c1 c2
      have t0 : (k0 + 3 * (k : Int) != k0 + 3 * (k : Int)) = false := by simp
      have t1 : (k0 + 3 * (k : Int) + 1 != k0 + 3 * (k : Int) + 1) = false := by simp
      have t2 : (k0 + 3 * (k : Int) + 1 + 1 != k0 + 3 * (k : Int) + 1 + 1) = false := by simp
      go_wp2
      go_round
      case rel => exact ⟨k + 1, by omega, by go_num, by congr 1; omega⟩
      case measure => simp [intOf]; omega
    · go_wp2
      go_ret
      obtain rfl : k = n := by omega
      exact ⟨rfl, rfl⟩

end Go.Proofs.Ytbmljcpeonopmaa
