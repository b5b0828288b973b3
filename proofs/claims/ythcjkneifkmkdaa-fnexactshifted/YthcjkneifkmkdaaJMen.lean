/-
  The program's gatherings: what they cost, and their mean (the closures cost and mean).
-/
import Derived.Test.YthcjkneifkmkdaaJAdd
namespace Go.Proofs.Ythcjkneifkmkdaa
open Go Go.RowKit

theorem floor_big {n s : Int} (hs : 0 < s) (h1 : -1000000 ≤ n) (h2 : n ≤ 1000000) : -1000000 ≤ n / s ∧ n / s ≤ 1000000 := by
  constructor
  · exact (Int.le_ediv_iff_mul_le hs).2 (by
      have : (1000000 : Int) * 1 ≤ 1000000 * s := Int.mul_le_mul_of_nonneg_left (by omega) (by omega)
      rw [Int.neg_mul]; omega)
  · have := (Int.ediv_lt_iff_lt_mul hs (a := n) (b := 1000001)).2 (by
      have : (1000001 : Int) * 1 ≤ 1000001 * s := Int.mul_le_mul_of_nonneg_left (by omega) (by omega)
      omega)
    omega

set_option maxHeartbeats 400000 in
theorem jDown (x s : Int) (w : World) (hs : 1 ≤ s) (hs' : s ≤ 1000) (h1 : -1000000 ≤ x) (h2 : x ≤ 1000000) :
    Calls Try.prog 87 #[.int .i64 x, .int .i64 s] w fun e w' => e = .returned (.int .i64 (x / s)) ∧ w' = w := by
  have hs0 : (s == 0) = false := by simp; omega
  have hbd := floor_big (n := x) (s := s) (by omega) h1 h2
  by_cases h : x < 0
  · have HV := hidP (floor_low (n := x) (s := s) (by omega) h)
    have hw1 : IntKind.i64.wrap ((x - (s - 1)).tdiv s) = (x - (s - 1)).tdiv s := by rw [HV.out]; exact IntWalk.i64_in _ ⟨by omega, by omega⟩
    clear hbd
    go_enter Try.func87, Try.ntmps87
    go_wp2
    go_ret
    exact ⟨ret_int HV.out, rfl⟩
  · have HV := hidP (tdiv_pos (n := x) (s := s) (by omega))
    have hw1 : IntKind.i64.wrap (x.tdiv s) = x.tdiv s := by rw [HV.out]; exact IntWalk.i64_in _ ⟨by omega, by omega⟩
    clear hbd
    go_enter Try.func87, Try.ntmps87
    go_wp2
    go_ret
    exact ⟨ret_int HV.out, rfl⟩

set_option maxHeartbeats 400000 in
theorem iMeanOf (s n : Int) (w : World) (h1 : -100000 ≤ s) (h2 : s ≤ 100000) (h3 : 1 ≤ n) (h4 : n ≤ 60) :
    Calls Try.prog 77 #[.int .i64 s, .int .i64 n] w fun e w' => e = .returned (.int .i64 (meanN s n)) ∧ w' = w := by
  have HD := hidP (jDown (2 * s + n - 1) (2 * n) w (by omega) (by omega) (by omega) (by omega))
  have HM : Hid ((2 * s + n - 1) / (2 * n) = meanN s n) := rfl
  rw [HM.out] at HD
  go_enter Try.func77, Try.ntmps77
  go_wp2_with fail
  refine HD.out.mono ?_
  rintro e w1 ⟨rfl, rfl⟩
  go_wp2_with fail
  go_ret
  exact ⟨rfl, rfl⟩

set_option maxHeartbeats 400000 in
theorem iMenFn (B : Nat) (k : Int) (x n : Int) (w : World) (hc : w.cell? ⟨B, 0, none⟩ = some (.int .i64 n)) (h1 : -100000 ≤ x) (h2 : x ≤ 100000) (h3 : 1 ≤ n) (h4 : n ≤ 60) :
    Calls Try.prog 76 #[.int .i64 k, .int .i64 x, .pointer (some ⟨B, 0, none⟩)] w fun e w' => e = .returned (.int .i64 (meanN x n)) ∧ w' = w := by
  have HD := hidP (iMeanOf x n w h1 h2 h3 h4)
  go_enter Try.func76, Try.ntmps76
  go_wp2_with fail
  refine HD.out.mono ?_
  rintro e w1 ⟨rfl, rfl⟩
  go_wp2_with fail
  go_ret
  exact ⟨rfl, rfl⟩

def menF (s : List Int) (n : Int) (k : Nat) : Int := meanN (nth s k) n

set_option maxHeartbeats 400000 in
theorem pEachMen (B : Nat) (n : Int) (b' off' cap' : Nat) (ys : List Int) (w : World) (hs' : Seg w b' off' ys) (hb' : b' < w.heap.size) (hn : ys.length ≤ 4)
    (hB : B < w.heap.size) (hc : w.cell? ⟨B, 0, none⟩ = some (.int .i64 n)) (hn1 : 1 ≤ n) (hn2 : n ≤ 60) (hbd : ∀ k, -100000 ≤ nth ys k ∧ nth ys k ≤ 100000) :
    Calls Try.prog 71 #[.slice (some ⟨b', off', none⟩) ys.length cap', .func (Fn.func 76) #[] #[.pointer (some ⟨B, 0, none⟩)]] w fun e w' =>
      e = .returned (.slice (some ⟨w.heap.size, 0, none⟩) ys.length ys.length) ∧ Own w' w.heap.size (tabL (menF ys n) ys.length) ∧ Below w.heap.size w w' := by
  have hmk := run_make_row' (P := Try.prog) 55 2 (.int .i64 0) 8 Try.underlying55 Try.info2 rfl .i64 .i64 ys.length (by omega) (by omega)
  have HH := hidP (fun (W : World) (k : Nat) (h : W.cell? ⟨B, 0, none⟩ = some (.int .i64 n)) => iMenFn B (k : Int) (nth ys k) n W h (hbd k).1 (hbd k).2 hn1 hn2)
  have HE : Hid (∀ k, menF ys n k = meanN (nth ys k) n) := fun k => rfl
  have HC : Hid (∀ (o : Obj) m, ((w.alloc o).drewN m).cell? ⟨B, 0, none⟩ = some (.int .i64 n)) := fun o m => by
    have L : Below w.heap.size w ((w.alloc o).drewN m) := below_drewN ((Below.refl _ _).alloc (Nat.le_refl _) _) m
    exact (L.cell (p := ⟨B, 0, none⟩) hB).trans hc
  clear hbd hc
  go_enter Try.func71, Try.ntmps71
  go_wp2
  clear hmk
  go_loopw [13] (fun i wr => ∃ k : Nat, k ≤ ys.length ∧ i = .int .i64 k ∧ ∃ m, wr = (w.alloc (.cells (filled (menF ys n) ys.length k) 2)).drewN m) (fun i _ => ys.length - (intOf i).toNat)
  case atStart => exact ⟨0, Nat.zero_le _, rfl, 0, by rw [filled_zero]; rfl⟩
  case round =>
    obtain ⟨k, hk, rfl, m, rfl⟩ := hrel
    by_cases hlt : k < ys.length
    · have hc := hs' k hlt
      have hnext := filled_next (menF ys n) ys.length k hlt
      have HC1 := hidP (HH.out _ k (HC.out (.cells (filled (menF ys n) ys.length k) 2) m))
      have HEk := hidP (HE.out k)
      go_wp2_with fail
      refine HC1.out.mono ?_
      rintro e w1 ⟨rfl, rfl⟩
      rw [← HEk.out]
      go_wp2
      go_roundw
      case rel => exact ⟨k + 1, by omega, by go_num, m, by rw [← filled_set (menF ys n) ys.length k hlt, set_new]⟩
      case measure => simp [intOf]; omega
    · go_wp2
      go_ret
      obtain rfl : k = ys.length := by omega
      refine ⟨rfl, ?_, ?_⟩
      · rw [filled_all]; exact (Own.new w _).drewN m
      · exact below_drewN ((Below.refl _ _).alloc (Nat.le_refl _) _) m

set_option maxHeartbeats 400000 in
theorem iCstFn (B : Nat) (x : Int) (w : World) (hc : w.cell? ⟨B, 0, none⟩ = some (.int .i64 x)) :
    Calls Try.prog 73 #[.pointer (some ⟨B, 0, none⟩)] w fun e w' => e = .returned (.int .i64 x) ∧ w' = w := by
  go_enter Try.func73, Try.ntmps73
  go_wp2_with fail
  go_ret
  exact ⟨rfl, rfl⟩

/-- The mean of a gathering: its center where there is none. -/
def gmean (c s : List Int) (many : Int) : List Int := if many = 0 then c else tabL (menF s many) s.length

set_option maxRecDepth 100000 in
set_option maxHeartbeats 1000000 in
theorem iMean (q : Gq) (bc oc cc g : Nat) (c s : List Int) (many cost : Int) (w : World) (hG : GatAt w q (.slice (some ⟨bc, oc, none⟩) c.length cc) many cost g s)
    (hsc : Seg w bc oc c) (hbc : bc < w.heap.size) (hc4 : c.length ≤ 4) (hsl : s.length = c.length) (hm0 : 0 ≤ many) (hm1 : many ≤ 60) (hsb : ∀ k, -100000 ≤ nth s k ∧ nth s k ≤ 100000) :
    Calls Try.prog 74 #[ptrV q.2.1, ptrV q.1, ptrV q.2.2.2] w fun e w' => ∃ g' c', e = .returned (.slice (some ⟨g', 0, none⟩) c.length c') ∧ IRow w.heap.size w' g' c' (gmean c s many) ∧ w.heap.size ≤ g' ∧ Below w.heap.size w w' := by
  obtain ⟨m1, -⟩ := one_cell hG.hmany
  obtain ⟨c1, -⟩ := one_cell hG.hctr
  obtain ⟨s1, -⟩ := one_cell hG.hsums
  have hlm : q.2.1 < w.heap.size := (Array.getElem?_eq_some_iff.1 hG.hmany).1
  unfold ptrV
  by_cases h0 : many = 0
  · have HV : Hid (gmean c s many = c) := by show _ = _; simp [gmean, h0]
    have hb0 : (many == 0) = true := by simp [h0]
    have HCL := hidP (pClone bc oc cc c w hsc hbc (by omega))
    rw [HV.out]
    clear h0 s1 hG hsc
    go_enter Try.func74, Try.ntmps74
    go_wp2_with fail
    refine HCL.out.mono ?_
    rintro e w1 ⟨g', c', rfl, r1, L1⟩
    have hlt := r1.lt
    have HP := hidP (And.intro r1 L1)
    clear r1 L1
    go_wp2_with fail
    go_ret
    exact ⟨g', c', rfl, HP.out.1, hlt.1, HP.out.2⟩
  · have HV : Hid (gmean c s many = tabL (menF s many) s.length) := by show _ = _; simp [gmean, h0]
    have hb0 : (many == 0) = false := by simp [h0]
    have HEM := hidP (pEachMen q.2.1 many g 0 s.length s w hG.hrow.seg hG.hrow.lt (by omega) hlm m1 (by omega) hm1 hsb)
    have HSL := hidP hsl
    rw [HV.out]
    clear h0 c1 hG hsc hsl
    go_enter Try.func74, Try.ntmps74
    go_wp2_with fail
    refine HEM.out.mono ?_
    rintro e w1 ⟨rfl, o1, L1⟩
    have HP := hidP (And.intro o1 L1)
    clear o1 L1
    go_wp2_with fail
    go_ret
    have hI := Own.irow (base := w.heap.size) HP.out.1 (Nat.le_refl _) (by rw [tabL_length, HSL.out]; unfold maxLen; omega)
    rw [tabL_length] at hI
    exact ⟨w.heap.size, s.length, by rw [HSL.out]; rfl, hI, Nat.le_refl _, HP.out.2⟩

end Go.Proofs.Ythcjkneifkmkdaa
