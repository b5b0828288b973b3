/-
  The given l10Mean: the number with the least sum of squares, the less of alike ones.
-/
import Derived.Test.YthcjkneifkmkdaaJSpec
namespace Go.Proofs.Ythcjkneifkmkdaa
open Go Go.RowKit

def jLow (xs : List Int) : Nat → Int
  | 0 => nth xs 0
  | k + 1 => min (jLow xs k) (nth xs k)
def jHigh (xs : List Int) : Nat → Int
  | 0 => nth xs 0
  | k + 1 => maxV (jHigh xs k) (nth xs k)
theorem jLow_bd {xs : List Int} (h : ∀ i, -1000 ≤ nth xs i ∧ nth xs i ≤ 1000) (k : Nat) : -1000 ≤ jLow xs k ∧ jLow xs k ≤ 1000 := by
  induction k with
  | zero => exact h 0
  | succ k ih => have := h k; simp only [jLow]; omega
theorem jHigh_bd {xs : List Int} (h : ∀ i, -1000 ≤ nth xs i ∧ nth xs i ≤ 1000) (k : Nat) : -1000 ≤ jHigh xs k ∧ jHigh xs k ≤ 1000 := by
  induction k with
  | zero => exact h 0
  | succ k ih => have := h k; simp only [jHigh, maxV]; omega
theorem jLow_le (xs : List Int) (k : Nat) : ∀ j, j < k → jLow xs k ≤ nth xs j := by
  induction k with
  | zero => intro j hj; omega
  | succ k ih =>
    intro j hj
    simp only [jLow]
    rcases Nat.lt_or_ge j k with h | h
    · have := ih j h; omega
    · rw [show j = k by omega]; omega
theorem jHigh_ge (xs : List Int) (k : Nat) : ∀ j, j < k → nth xs j ≤ jHigh xs k := by
  induction k with
  | zero => intro j hj; omega
  | succ k ih =>
    intro j hj
    simp only [jHigh, maxV]
    rcases Nat.lt_or_ge j k with h | h
    · have := ih j h; omega
    · rw [show j = k by omega]; omega
theorem sumTo_ge (f : Nat → Int) (c : Int) (n : Nat) (h : ∀ j, j < n → c ≤ f j) : c * n ≤ sumTo f n := by
  induction n with
  | zero => simp [sumTo]
  | succ n ih =>
    have := ih (fun j hj => h j (by omega)); have := h n (by omega)
    simp only [sumTo]
    rw [show ((n + 1 : Nat) : Int) = (n : Int) + 1 by omega, Int.mul_add]
    omega
theorem sumTo_up (f : Nat → Int) (c : Int) (n : Nat) (h : ∀ j, j < n → f j ≤ c) : sumTo f n ≤ c * n := by
  induction n with
  | zero => simp [sumTo]
  | succ n ih =>
    have := ih (fun j hj => h j (by omega)); have := h n (by omega)
    simp only [sumTo]
    rw [show ((n + 1 : Nat) : Int) = (n : Int) + 1 by omega, Int.mul_add]
    omega
theorem meanN_ge {s n c : Int} (hn : 0 < n) (h : c * n ≤ s) : c ≤ meanN s n := by
  unfold meanN
  refine (Int.le_ediv_iff_mul_le (by omega)).2 ?_
  have e : c * (2 * n) = 2 * (c * n) := Int.mul_left_comm ..
  omega
theorem meanN_up {s n c : Int} (hn : 0 < n) (h : s ≤ c * n) : meanN s n ≤ c := by
  unfold meanN
  have := (Int.ediv_lt_iff_lt_mul (by omega : (0 : Int) < 2 * n) (a := 2 * s + n - 1) (b := c + 1)).2 (by
    have e : (c + 1) * (2 * n) = 2 * (c * n) + 2 * n := by rw [Int.add_mul, Int.one_mul, Int.mul_left_comm]
    omega)
  omega
theorem sumTo_sq (f : Nat → Int) (n : Nat) (x : Int) : sumTo (sqG f x) n = sumTo (fun j => f j * f j) n + ((n : Int) * (x * x) - 2 * (sumTo f n * x)) := by
  induction n with
  | zero => simp [sumTo]
  | succ n ih =>
    simp only [sumTo]
    rw [ih]
    have e : sqG f x n = f n * f n + (x * x - 2 * (f n * x)) := by
      simp only [sqG, Int.sub_mul, Int.mul_sub]
      rw [Int.mul_comm x (f n)]
      omega
    rw [e, show ((n + 1 : Nat) : Int) = (n : Int) + 1 by omega, Int.add_mul, Int.one_mul, Int.add_mul]
    omega
def mnV (xs : List Int) : Int := meanN (sumTo (nth xs) xs.length) xs.length
def sqV (xs : List Int) (x : Int) : Int := sumTo (sqG (nth xs) x) xs.length
theorem sqV_up {xs : List Int} (h : 0 < xs.length) (x : Int) : sqV xs (mnV xs) ≤ sqV xs x := by
  unfold sqV mnV
  rw [sumTo_sq, sumTo_sq]
  have := meanN_least (s := sumTo (nth xs) xs.length) (n := xs.length) (by omega) x
  omega
theorem sqV_down {xs : List Int} (h : 0 < xs.length) {x : Int} (hx : x ≤ mnV xs) : sqV xs x < sqV xs (x - 1) := by
  unfold sqV
  rw [sumTo_sq, sumTo_sq]
  have h2 := (meanN_in (s := sumTo (nth xs) xs.length) (n := xs.length) (by omega)).2
  unfold mnV at hx
  generalize meanN (sumTo (nth xs) xs.length) xs.length = m at *
  generalize sumTo (nth xs) xs.length = s at *
  have a : (xs.length : Int) * (2 * x - 1) ≤ xs.length * (2 * m - 1) := Int.mul_le_mul_of_nonneg_left (by omega) (by omega)
  generalize (xs.length : Int) = n at *
  have e1 : n * ((x - 1) * (x - 1)) = n * (x * x) - n * (2 * x - 1) := by
    have : (x - 1) * (x - 1) = x * x - (2 * x - 1) := by
      simp only [Int.sub_mul, Int.mul_sub, Int.one_mul, Int.mul_one]; omega
    rw [this, Int.mul_sub]
  have e2 : s * (x - 1) = s * x - s := by rw [Int.mul_sub, Int.mul_one]
  rw [e1, e2]
  omega
theorem sqG_bd {f : Nat → Int} {x : Int} (h1 : -1000 ≤ x) (h2 : x ≤ 1000) (hf : ∀ j, -1000 ≤ f j ∧ f j ≤ 1000) (j : Nat) : 0 ≤ sqG f x j ∧ sqG f x j ≤ 4000000 := by
  have := hf j
  refine ⟨sq_nonneg _, ?_⟩
  have := (mul_bd (x := f j - x) (y := f j - x) (m := 2000) (by omega) (by omega) (by omega)).2
  simpa [sqG] using this
theorem mnV_in {xs : List Int} (h : 0 < xs.length) : jLow xs xs.length ≤ mnV xs ∧ mnV xs ≤ jHigh xs xs.length :=
  ⟨meanN_ge (by omega) (sumTo_ge _ _ _ (jLow_le xs _)), meanN_up (by omega) (sumTo_up _ _ _ (jHigh_ge xs _))⟩
theorem mnV_own (g : Nat → Nat) (f : Nat → Int) (i n : Nat) : mnV (ownG g f i n) = meanN (sumG g f i n) (cntG g i n) := by
  unfold mnV
  rw [ownG_sum, ownG_length]
/-- What is best among the first t numbers from low on, and what it costs. -/
def bstM (xs : List Int) (lo : Int) : Nat → Int
  | 0 => nth xs 0
  | t + 1 => min (lo + t) (mnV xs)
def lstM (xs : List Int) (lo : Int) : Nat → Int
  | 0 => -1
  | t + 1 => sqV xs (min (lo + t) (mnV xs))

set_option maxHeartbeats 400000 in
theorem lMin (x y : Int) (w : World) :
    Calls Try.prog 63 #[.int .i64 x, .int .i64 y] w fun e w' => e = .returned (.int .i64 (min x y)) ∧ w' = w := by
  by_cases h : x < y
  · have HV : Hid (min x y = x) := by show min x y = x; omega
    go_enter Try.func63, Try.ntmps63
    go_wp2
    go_ret
    exact ⟨ret_int HV.out.symm, rfl⟩
  · have HV : Hid (min x y = y) := by show min x y = y; omega
    go_enter Try.func63, Try.ntmps63
    go_wp2
    go_ret
    exact ⟨ret_int HV.out.symm, rfl⟩

set_option maxRecDepth 100000 in
set_option maxHeartbeats 4000000 in
theorem sMean (b off cap : Nat) (xs : List Int) (w : World) (hs : Seg w b off xs) (h0 : 0 < xs.length) (hn : xs.length ≤ 60) (hbd : ∀ i, -1000 ≤ nth xs i ∧ nth xs i ≤ 1000) :
    Calls Try.prog 42 #[.slice (some ⟨b, off, none⟩) xs.length cap] w fun e w' => e = .returned (.int .i64 (mnV xs)) ∧ ∃ n, w' = w.drewN n := by
  have hc0 := hs 0 h0
  rw [Nat.add_zero] at hc0
  have HS := hidP hs
  have HB := hidP hbd
  have hpos : (0 : Int) < (xs.length : Int) := by omega
  have HIN := hidP (mnV_in h0)
  have HLB := hidP (jLow_bd hbd)
  have HHB := hidP (jHigh_bd hbd)
  have HUP := hidP (sqV_up h0)
  have HDN : Hid (∀ x, x ≤ mnV xs → sqV xs x < sqV xs (x - 1)) := fun x hx => sqV_down h0 hx
  clear hs hbd
  go_enter Try.func42, Try.ntmps42
  go_wp2_with fail
  go_loop [4, 5, 6] (fun lo hi i => ∃ k : Nat, k ≤ xs.length ∧ i = .int .i64 k ∧ lo = .int .i64 (jLow xs k) ∧ hi = .int .i64 (jHigh xs k)) (fun _ _ i => xs.length - (intOf i).toNat)
  case atStart => exact ⟨0, Nat.zero_le _, rfl, rfl, rfl⟩
  case round =>
    obtain ⟨k, hk, rfl, rfl, rfl⟩ := hrel
    by_cases hlt : k < xs.length
    · have hc := HS.out k hlt
      have H1 : Hid (jLow xs (k + 1) = min (jLow xs k) (nth xs k)) := rfl
      have H2 : Hid (jHigh xs (k + 1) = maxV (jHigh xs k) (nth xs k)) := rfl
      have C1 := hidP (lMin (jLow xs k) (nth xs k) w)
      have C2 := hidP (sMax (jHigh xs k) (nth xs k) w)
      rw [← H1.out] at C1
      rw [← H2.out] at C2
      generalize jLow xs (k + 1) = l1 at *
      generalize jHigh xs (k + 1) = g1 at *
      go_wp2_with fail
      refine C1.out.mono ?_
      rintro e w1 ⟨rfl, rfl⟩
      go_wp2_with fail
      refine C2.out.mono ?_
      rintro e w2 ⟨rfl, rfl⟩
      go_wp2_with fail
      go_round
      case rel => exact ⟨k + 1, by omega, by go_num, by rw [H1.out]; rfl, by rw [H2.out]; rfl⟩
      case measure => simp [intOf]; omega
    · obtain rfl : k = xs.length := by omega
      have hlb := HLB.out xs.length
      have hhb := HHB.out xs.length
      have hin := HIN.out
      generalize hL : jLow xs xs.length = lo at *
      generalize hH : jHigh xs xs.length = hi at *
      clear hL hH HLB HHB HIN hc0
      generalize hm : mnV xs = m at *
      have HM := hidP hm
      clear hm
      go_wp2_with fail
      go_loopw [3, 7, 8] (fun bst lst x wr => ∃ t : Nat, lo + t ≤ hi + 1 ∧ x = .int .i64 (lo + t) ∧ bst = .int .i64 (bstM xs lo t) ∧ lst = .int .i64 (lstM xs lo t) ∧ ∃ n, wr = w.drewN n) (fun _ _ x _ => (hi + 1 - intOf x).toNat)
      case atStart => exact ⟨0, by omega, by simp, rfl, rfl, 0, rfl⟩
      case round =>
        obtain ⟨t, ht, rfl, rfl, rfl, hw⟩ := hrel
        have HW := hidP hw
        clear hw
        by_cases hle : lo + t ≤ hi
        · obtain ⟨x, hx⟩ : ∃ x : Int, x = lo + t := ⟨_, rfl⟩
          have HX := hidP hx
          rw [← hx] at hle ⊢
          have hx1 : -1000 ≤ x := by omega
          have hx2 : x ≤ 1000 := by omega
          clear hx ht
          generalize hbs : bstM xs lo t = bs at *
          generalize hls : lstM xs lo t = ls at *
          have HBS := hidP hbs
          have HLS := hidP hls
          clear hbs hls
          go_wp2_with fail
          go_loopw [9, 10] (fun s i w4 => ∃ j : Nat, j ≤ xs.length ∧ i = .int .i64 j ∧ s = .int .i64 (sumTo (sqG (nth xs) x) j) ∧ ∃ n, w4 = w.drewN n) (fun _ i _ => xs.length - (intOf i).toNat)
          case atStart => exact ⟨0, Nat.zero_le _, rfl, rfl, HW.out⟩
          case round =>
            obtain ⟨j, hj, rfl, rfl, hw4⟩ := hrel
            have HW4 := hidP hw4
            clear hw4
            by_cases hjl : j < xs.length
            · have hcj : wr.cell? ⟨b, off + j, none⟩ = some (.int .i64 (nth xs j)) := by obtain ⟨n, rfl⟩ := HW4.out; exact HS.out j hjl
              have hbj := HB.out j
              have hg := sqG_bd hx1 hx2 HB.out j
              have hsum := sumTo_le (sqG (nth xs) x) 0 4000000 (sqG_bd hx1 hx2 HB.out) j
              have HN : Hid (sumTo (sqG (nth xs) x) (j + 1) = sumTo (sqG (nth xs) x) j + (nth xs j - x) * (nth xs j - x)) := rfl
              unfold sqG at hg
              go_wp2
              go_quiet (fail)
              go_wp2
              go_roundw
              case rel => exact ⟨j + 1, by omega, by go_num, by rw [HN.out], by obtain ⟨n, hn⟩ := HW4.out; exact ⟨n + nq, by rw [hn]; simp⟩⟩
              case measure => simp [intOf]; omega
            · obtain rfl : j = xs.length := by omega
              have HQ : Hid (sumTo (sqG (nth xs) x) xs.length = sqV xs x) := rfl
              have hsum := sumTo_le (sqG (nth xs) x) 0 4000000 (sqG_bd hx1 hx2 HB.out) xs.length
              rw [HQ.out] at hsum ⊢
              have HUX := hidP (HUP.out x)
              have HDX := hidP (HDN.out x)
              generalize hq : sqV xs x = q at *
              have HQV := hidP hq
              clear hq
              rcases Nat.eq_zero_or_pos t with ht0 | ht0
              · have hl : ls = -1 := by rw [← HLS.out, ht0]; rfl
                have hb' : bs = nth xs 0 := by rw [← HBS.out, ht0]; rfl
                have hneg : ls < 0 := by omega
                have HXX : Hid (x = min (lo + ((0 : Nat) : Int)) m) := by show x = _; have := HX.out; rw [ht0] at this; omega
                have HT0 := hidP ht0
                clear hl hb' ht0
                go_wp2_with fail
                go_roundw
                case rel =>
                  refine ⟨t + 1, by have := HX.out; omega, by have := HX.out; go_num, ?_, ?_, HW4.out⟩
                  · rw [HT0.out]
                    show _ = Value.int .i64 (min (lo + ((0 : Nat) : Int)) (mnV xs))
                    rw [HM.out, ← HXX.out]
                  · rw [HT0.out]
                    show _ = Value.int .i64 (sqV xs (min (lo + ((0 : Nat) : Int)) (mnV xs)))
                    rw [HM.out, ← HXX.out, HQV.out]
                case measure => simp [intOf]; omega
              · obtain ⟨t', rfl⟩ : ∃ t', t = t' + 1 := ⟨t - 1, by omega⟩
                have HB1 : Hid (bs = min (lo + (t' : Int)) m) := by show bs = _; rw [← HBS.out, ← HM.out]; rfl
                have HL1 : Hid (ls = sqV xs (min (lo + (t' : Int)) m)) := by show ls = _; rw [← HLS.out, ← HM.out]; rfl
                have HXT : Hid (x = lo + (t' : Int) + 1) := by show x = _; have := HX.out; omega
                have hnn : ¬ ls < 0 := by
                  rw [HL1.out]
                  have := (sumTo_le (sqG (nth xs) (min (lo + (t' : Int)) m)) 0 4000000 (sqG_bd (by have := HXT.out; omega) (by have := HXT.out; omega) HB.out) xs.length).1
                  show ¬ sumTo (sqG (nth xs) (min (lo + (t' : Int)) m)) xs.length < 0
                  omega
                clear ht0
                by_cases hxm : x ≤ m
                · have hyes : q < ls := by
                    have h := HDX.out hxm
                    rw [HL1.out, show min (lo + (t' : Int)) m = x - 1 by have := HXT.out; omega]
                    exact h
                  have HXM : Hid (min (lo + ((t' + 1 : Nat) : Int)) m = x) := by show _ = _; have := HXT.out; omega
                  clear hxm
                  go_wp2_with fail
                  go_roundw
                  case rel =>
                    refine ⟨t' + 1 + 1, by have := HX.out; omega, by have := HX.out; go_num, ?_, ?_, HW4.out⟩
                    · show _ = Value.int .i64 (min (lo + ((t' + 1 : Nat) : Int)) (mnV xs))
                      rw [HM.out, HXM.out]
                    · show _ = Value.int .i64 (sqV xs (min (lo + ((t' + 1 : Nat) : Int)) (mnV xs)))
                      rw [HM.out, HXM.out, HQV.out]
                  case measure => simp [intOf]; omega
                · have hno : ¬ q < ls := by
                    have h := HUX.out
                    rw [HL1.out, show min (lo + (t' : Int)) m = m by have := HXT.out; omega]
                    omega
                  have HXM : Hid (min (lo + ((t' + 1 : Nat) : Int)) m = min (lo + (t' : Int)) m) := by show _ = _; have := HXT.out; omega
                  clear hxm
                  go_wp2_with fail
                  go_roundw
                  case rel =>
                    refine ⟨t' + 1 + 1, by have := HX.out; omega, by have := HX.out; go_num, ?_, ?_, HW4.out⟩
                    · show _ = Value.int .i64 (min (lo + ((t' + 1 : Nat) : Int)) (mnV xs))
                      rw [HM.out, HXM.out, HB1.out]
                    · show _ = Value.int .i64 (sqV xs (min (lo + ((t' + 1 : Nat) : Int)) (mnV xs)))
                      rw [HM.out, HXM.out, HL1.out]
                  case measure => simp [intOf]; omega
        · obtain ⟨t', rfl⟩ : ∃ t', t = t' + 1 := ⟨t - 1, by omega⟩
          have HE : Hid (bstM xs lo (t' + 1) = m) := by show min (lo + (t' : Int)) (mnV xs) = m; rw [HM.out]; omega
          go_wp2_with fail
          go_ret
          exact ⟨ret_int (by rw [HE.out, HM.out]), HW.out⟩

end Go.Proofs.Ythcjkneifkmkdaa
