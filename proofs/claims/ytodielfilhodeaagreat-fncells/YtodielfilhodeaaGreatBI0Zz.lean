/-
  The program's own BoxOk, takes and Inside.
-/
import Derived.Test.YtodielfilhodeaaGreatBSpecZz
import Derived.Test.YtodielfilhodeaaGreatCopyZz
namespace Go.Proofs.YtodielfilhodeaaGreat
open Go Go.RowKit

def aboveB (p q : List Int) : Bool := (List.range p.length).all fun i => decide (nth p i ≤ nth q i)
theorem aboveB_out {p q : List Int} {i : Nat} (hi : i < p.length) (h : nth p i > nth q i) : aboveB p q = false := by
  rcases hb : aboveB p q with _ | _
  · rfl
  · simp only [aboveB, List.all_eq_true] at hb
    have := hb i (List.mem_range.2 hi)
    simp at this; omega
theorem aboveB_mk {p q : List Int} (hs : ∀ i, i < p.length → nth p i ≤ nth q i) : aboveB p q = true := by
  simp only [aboveB, List.all_eq_true]
  exact fun i hi => by simp; exact hs i (List.mem_range.1 hi)
theorem aboveB_at {p q : List Int} (h : aboveB p q = true) {i : Nat} (hi : i < p.length) : nth p i ≤ nth q i := by
  simp only [aboveB, List.all_eq_true] at h
  have := h i (List.mem_range.2 hi)
  simpa using this
theorem boxB_above (lo hi : List Int) : boxB (lo, hi) = (twoB lo hi && aboveB lo hi) := rfl
theorem outF_zero {lo hi p : List Int} (i : Nat) : outQ (lo, hi) p i = 0 ↔ nth lo i ≤ nth p i ∧ nth p i ≤ nth hi i := by
  unfold outQ
  constructor
  · intro h
    have h0 : outF (lo, hi) p i = 0 := by
      rcases Int.mul_eq_zero.1 h with h | h <;> exact h
    unfold outF maxV at h0
    simp only at h0
    omega
  · intro h
    have h0 : outF (lo, hi) p i = 0 := by unfold outF maxV; simp only; omega
    rw [h0]; rfl
theorem sum_nil (f : Nat → Int) (h : ∀ i, 0 ≤ f i) (n : Nat) : sumTo f n = 0 ↔ ∀ i, i < n → f i = 0 := by
  induction n with
  | zero => exact ⟨fun _ i hi => by omega, fun _ => rfl⟩
  | succ n ih =>
    have hs := h n
    have hn : 0 ≤ sumTo f n := by
      have : ∀ k, 0 ≤ sumTo f k := fun k => by
        induction k with
        | zero => exact Int.le_refl _
        | succ k ih2 => have := h k; simp only [sumTo]; omega
      exact this n
    constructor
    · intro h2 i hi
      simp only [sumTo] at h2
      rcases Nat.lt_or_ge i n with h3 | h3
      · exact (ih.1 (by omega)) i h3
      · rw [show i = n by omega]; omega
    · intro h2
      simp only [sumTo]
      rw [ih.2 (fun i hi => h2 i (by omega)), h2 n (by omega)]; rfl
theorem inside_eq {lo hi p : List Int} (ht : toldX (lo, hi) p = true) : insideB (lo, hi) p = (aboveB lo p && aboveB p hi) := by
  obtain ⟨h1, h2⟩ := toldX_of ht
  obtain ⟨_, _, hl⟩ := twoB_of h2
  have hl' : lo.length = p.length := hl
  have e : insideB (lo, hi) p = decide (sumTo (outQ (lo, hi) p) p.length = 0) := by simp [insideB, toBoxV, ht]
  rw [e]
  have hz := sum_nil (outQ (lo, hi) p) (fun i => (outQ_bd ht i).1) p.length
  rcases ha : aboveB lo p with _ | _
  · rw [Bool.false_and]
    refine decide_eq_false fun h => ?_
    have := aboveB_mk (p := lo) (q := p) (fun i hi => ((outF_zero i).1 (hz.1 h i (by omega))).1)
    rw [ha] at this; cases this
  · rcases hb : aboveB p hi with _ | _
    · rw [Bool.and_false]
      refine decide_eq_false fun h => ?_
      have := aboveB_mk (p := p) (q := hi) (fun i hi => ((outF_zero i).1 (hz.1 h i hi)).2)
      rw [hb] at this; cases this
    · refine decide_eq_true (hz.2 fun i hi => (outF_zero i).2 ⟨aboveB_at ha (by omega), aboveB_at hb hi⟩)

set_option maxRecDepth 100000 in
set_option maxHeartbeats 400000 in
theorem pAbove (b off cap b' off' cap' : Nat) (p q : List Int) (w : World) (s1 : Seg w b off p) (s2 : Seg w b' off' q) (hl : p.length = q.length) (hn : p.length ≤ 1048576) :
    Calls Tryz.prog 189 #[.slice (some ⟨b, off, none⟩) p.length cap, .slice (some ⟨b', off', none⟩) q.length cap'] w fun e w' => e = .returned (.bool (aboveB p q)) ∧ w' = w := by
  have HL := hidP hl
  have HV := hidP (aboveB_mk (p := p) (q := q))
  clear hl
  go_enter Tryz.func189, Tryz.ntmps189
  go_wp2
  go_loop [9] (fun i => ∃ k : Nat, k ≤ p.length ∧ i = .int .i64 k ∧ ∀ j, j < k → nth p j ≤ nth q j) (fun i => p.length - (intOf i).toNat)
  case atStart => exact ⟨0, Nat.zero_le _, rfl, fun j hj => by omega⟩
  case round =>
    obtain ⟨k, hk, rfl, hall⟩ := hrel
    have HA := hidP hall
    clear hall
    by_cases hlt : k < p.length
    · have hc := s1 k hlt
      have hlt' : k < q.length := by have := HL.out; omega
      have hc' := s2 k hlt'
      by_cases hgt : nth p k > nth q k
      · have HX := hidP (aboveB_out hlt hgt)
        go_wp2
        go_ret
        exact ⟨ret_bool HX.out.symm, rfl⟩
      · go_wp2
        go_round
        case rel => exact ⟨k + 1, by omega, by go_num, fun j hj => by
          rcases Nat.lt_or_ge j k with h | h
          · exact HA.out j h
          · rw [show j = k by omega]; omega⟩
        case measure => simp [intOf]; omega
    · go_wp2
      go_ret
      exact ⟨ret_bool (HV.out (fun j hj => HA.out j (by omega))).symm, rfl⟩

set_option maxRecDepth 100000 in
set_option maxHeartbeats 1000000 in
theorem iBoxOk (a1 a2 : Option Addr) (c1 c2 : Nat) (lo hi : List Int) (w : World) (h1 : View w a1 lo) (h2 : View w a2 hi) (n1 : lo.length ≤ 1048576) (n2 : hi.length ≤ 1048576) :
    Calls Tryz.prog 171 #[.agg #[.slice a1 lo.length c1, .slice a2 hi.length c2]] w fun e w' => e = .returned (.bool (boxB (lo, hi))) ∧ Below w.heap.size w w' := by
  obtain ⟨W, hW⟩ : ∃ W, W = w.alloc (.cells #[.slice a1 lo.length c1, .slice a2 hi.length c2] 155) := ⟨_, rfl⟩
  have hB : Below w.heap.size w W := by rw [hW]; exact (Below.refl w.heap.size w).alloc (Nat.le_refl _) _
  have k0 : W.cell? ⟨w.heap.size, 0, none⟩ = some (.slice a1 lo.length c1) := by rw [hW]; simp
  have k1 : W.cell? ⟨w.heap.size, 1, none⟩ = some (.slice a2 hi.length c2) := by rw [hW]; simp
  have HT := hidP (pPairs a1 a2 c1 c2 lo hi W (h1.next hB) (h2.next hB) n1 n2)
  have HB := hidP hB
  rcases ht : twoB lo hi with _ | _
  · rw [ht] at HT
    have HV : Hid (boxB (lo, hi) = false) := boxB_not (b := (lo, hi)) ht
    clear hB
    go_enter Tryz.func171, Tryz.ntmps171
    go_wp2_with fail
    rw [← hW]
    clear hW
    refine HT.out.mono ?_
    rintro e w' ⟨rfl, hw⟩
    subst w'
    go_wp2_with fail
    go_ret
    exact ⟨ret_bool HV.out.symm, HB.out⟩
  · rw [ht] at HT
    obtain ⟨ha, hb, hl⟩ := twoB_of ht
    have h4 := okB_len ha
    obtain ⟨b1, o1, rfl, hb1, s1⟩ := h1.seg (by omega)
    obtain ⟨b2, o2, rfl, hb2, s2⟩ := h2.seg (by omega)
    have HV : Hid (boxB (lo, hi) = aboveB lo hi) := by show _ = _; rw [boxB_above, ht]; rfl
    have HA := hidP (pAbove b1 o1 c1 b2 o2 c2 lo hi W (s1.below hb1 hB) (s2.below hb2 hB) hl n1)
    clear hl hB s1 s2
    go_enter Tryz.func171, Tryz.ntmps171
    go_wp2_with fail
    rw [← hW]
    clear hW
    refine HT.out.mono ?_
    rintro e w' ⟨rfl, hw⟩
    subst w'
    go_wp2_with fail
    refine HA.out.mono ?_
    rintro e w' ⟨rfl, hw⟩
    subst w'
    go_wp2_with fail
    go_ret
    exact ⟨ret_bool HV.out.symm, HB.out⟩

set_option maxRecDepth 100000 in
set_option maxHeartbeats 1000000 in
theorem pTakes (a1 a2 a3 : Option Addr) (c1 c2 c3 : Nat) (lo hi p : List Int) (w : World) (h1 : View w a1 lo) (h2 : View w a2 hi) (h3 : View w a3 p) (n1 : lo.length ≤ 1048576) (n2 : hi.length ≤ 1048576) (n3 : p.length ≤ 1048576) :
    Calls Tryz.prog 153 #[.agg #[.slice a1 lo.length c1, .slice a2 hi.length c2], .slice a3 p.length c3] w fun e w' => e = .returned (.bool (toldX (lo, hi) p)) ∧ Below w.heap.size w w' := by
  obtain ⟨W, hW⟩ : ∃ W, W = w.alloc (.cells #[.slice a1 lo.length c1, .slice a2 hi.length c2] 155) := ⟨_, rfl⟩
  have hB : Below w.heap.size w W := by rw [hW]; exact (Below.refl w.heap.size w).alloc (Nat.le_refl _) _
  have k0 : W.cell? ⟨w.heap.size, 0, none⟩ = some (.slice a1 lo.length c1) := by rw [hW]; simp
  have k1 : W.cell? ⟨w.heap.size, 1, none⟩ = some (.slice a2 hi.length c2) := by rw [hW]; simp
  have hz : w.heap.size < W.heap.size := by rw [hW]; simp
  have HC := hidP (iBoxOk a1 a2 c1 c2 lo hi W (h1.next hB) (h2.next hB) n1 n2)
  have HB := hidP hB
  have HV := hidP (And.intro h1 h3)
  clear h1 h2 h3 hB
  rcases hb : boxB (lo, hi) with _ | _
  · rw [hb] at HC
    have HT : Hid (toldX (lo, hi) p = false) := by show _ = _; simp [toldX, hb]
    go_enter Tryz.func153, Tryz.ntmps153
    go_wp2_with fail
    rw [← hW]
    clear hW
    refine HC.out.mono ?_
    rintro e w2 ⟨rfl, L2⟩
    go_wp2_with fail
    go_ret
    exact ⟨ret_bool HT.out.symm, chain HB.out L2⟩
  · rw [hb] at HC
    have HT : Hid (toldX (lo, hi) p = twoB p lo) := by show _ = _; rw [twoB_comm]; simp [toldX, hb]
    go_enter Tryz.func153, Tryz.ntmps153
    go_wp2_with fail
    rw [← hW]
    clear hW
    refine HC.out.mono ?_
    rintro e w2 ⟨rfl, L2⟩
    have q0 := (L2.cell (p := ⟨w.heap.size, 0, none⟩) hz).trans k0
    have L3 := chain HB.out L2
    have HW := hidP (pPairs a3 a1 c3 c1 p lo w2 (HV.out.2.next L3) (HV.out.1.next L3) n3 n1)
    have HL := hidP L3
    clear L2 L3 HC k0 k1
    go_wp2_with fail
    refine HW.out.mono ?_
    rintro e w3 ⟨rfl, hw⟩
    subst w3
    go_wp2_with fail
    go_ret
    exact ⟨ret_bool HT.out.symm, HL.out⟩

end Go.Proofs.YtodielfilhodeaaGreat
