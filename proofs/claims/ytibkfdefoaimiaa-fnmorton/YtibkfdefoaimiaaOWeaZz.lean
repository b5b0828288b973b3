/-
  The given Weave.
  The given Unweave.
-/
import Derived.Test.YtibkfdefoaimiaaOBitZz
import Derived.Test.YtibkfdefoaimiaaOBelZz
import Derived.Test.YtibkfdefoaimiaaOMathZz
namespace Go.Proofs.Ytibkfdefoaimiaa
open Go Go.RowKit

def nats (p : List Int) (k : Nat) : Nat := (nth p k).toNat
def weaveV (p : List Int) : Int := if lineB p = true then ((wOut p.length (nats p) p.length : Nat) : Int) else -1

theorem weaveV_in {p : List Int} (h : lineB p = true) : weaveV p = ((wOut p.length (nats p) p.length : Nat) : Int) := if_pos h
theorem weaveV_out {p : List Int} (h : lineB p = false) : weaveV p = -1 := if_neg (by simp [h])
theorem nats_lt {p : List Int} (h : lineB p = true) {k : Nat} (hk : k < p.length) : nats p k < 2 ^ 10 := by
  have := keepB_at h hk
  unfold nats
  omega
theorem nats_at {p : List Int} (h : lineB p = true) {k : Nat} (hk : k < p.length) : nth p k = (nats p k : Int) := by
  have := keepB_at h hk
  unfold nats
  omega
theorem forty_le {n : Nat} (h : n ≤ 4) {c : Nat} (hc : c < 2 ^ (10 * n)) : c < 1099511627776 :=
  Nat.lt_of_lt_of_le hc (Nat.pow_le_pow_right (n := 2) (by decide) (show 10 * n ≤ 40 by omega))

theorem put_i64 {n k x i : Nat} (hn : n ≤ 4) (hk : k < n) (hi : i < 10) : wrap64 (((bitN x i : Nat) : Int) * 2 ^ (n * i + k)) = ((bitN x i * 2 ^ (n * i + k) : Nat) : Int) := by
  have h1 := forty_le hn (put_lt (x := x) hk hi)
  have e : ((bitN x i : Nat) : Int) * 2 ^ (n * i + k) = ((bitN x i * 2 ^ (n * i + k) : Nat) : Int) := by simp
  rw [e]
  generalize bitN x i * 2 ^ (n * i + k) = y at h1
  unfold wrap64
  omega

theorem or_put {n k x c i : Nat} (hn : n ≤ 4) (hk : k < n) (hi : i < 10) (hc : c < 2 ^ (10 * n)) : bits .or .i64 (c : Int) (wrap64 (((bitN x i : Nat) : Int) * 2 ^ (n * i + k))) = ((c ||| bitN x i * 2 ^ (n * i + k) : Nat) : Int) := by
  have h1 := forty_le hn (put_lt (x := x) hk hi)
  have h2 := forty_le hn hc
  rw [put_i64 hn hk hi, i64_or (Int.natCast_nonneg _) (by omega) (Int.natCast_nonneg _) (Int.ofNat_lt.2 (Nat.lt_trans h1 (by decide))), Int.toNat_natCast, Int.toNat_natCast]

theorem bit_tmod (x i : Nat) : ((x : Int) / 2 ^ i).tmod 2 = ((bitN x i : Nat) : Int) := by
  have e : (x : Int) / 2 ^ i = ((x / 2 ^ i : Nat) : Int) := by simp
  rw [e, Int.tmod_eq_emod_of_nonneg (Int.natCast_nonneg _)]
  rfl

set_option maxRecDepth 100000 in
set_option maxHeartbeats 4000000 in
theorem sWeave_in (b off cap : Nat) (p : List Int) (w : World) (hs : Seg w b off p) (hb : b < w.heap.size) (hl : lineB p = true) :
    Calls Try.prog 18 #[.slice (some ⟨b, off, none⟩) p.length cap] w fun e w' => e = .returned (.int .i64 (weaveV p)) ∧ w' = w := by
  have HL := hidP hl
  have HV := hidP (weaveV_in hl)
  obtain ⟨h1, h4⟩ := keepB_len hl
  have hn : p.length ≤ 1048576 := by omega
  clear hl
  go_enter Try.func18, Try.ntmps18
  go_wp2_with (go_at_call 53; refine (s8 _ cap p _ (Or.inr ⟨b, off, rfl, hb, hs⟩) hn).mono ?_; rintro e w' ⟨rfl, rfl⟩; rw [HL.out])
  go_loop [5, 4] (fun i c => ∃ k : Nat, k ≤ p.length ∧ i = .int .i64 k ∧ c = .int .i64 (wOut p.length (nats p) k : Int)) (fun i _ => p.length - (intOf i).toNat)
  case atStart => exact ⟨0, Nat.zero_le _, rfl, rfl⟩
  case round =>
    obtain ⟨k, hk, rfl, rfl⟩ := hrel
    by_cases hlt : k < p.length
    · obtain ⟨c0, hc0⟩ : ∃ c0, wOut p.length (nats p) k = c0 := ⟨_, rfl⟩
      have HC := hidP hc0
      have HCB := hidP (show c0 < 2 ^ (10 * p.length) by rw [← hc0]; exact wOut_lt _ _ _ hk)
      rw [hc0]
      clear hc0
      have hcell := hs k hlt
      rw [nats_at HL.out hlt] at hcell
      obtain ⟨x, hx⟩ : ∃ x, nats p k = x := ⟨_, rfl⟩
      have HX := hidP hx
      have hx10 : x < 1024 := by rw [← hx]; exact nats_lt HL.out hlt
      rw [hx] at hcell
      clear hx
      go_wp2
      go_loop [6, 4] (fun i c => ∃ j : Nat, j ≤ 10 ∧ i = .int .i64 j ∧ c = .int .i64 (wIn p.length k x c0 j : Int)) (fun i _ => 10 - (intOf i).toNat)
      case atStart => exact ⟨0, Nat.zero_le _, rfl, rfl⟩
      case round =>
        obtain ⟨j, hj, rfl, rfl⟩ := hrel
        by_cases hjt : j < 10
        · have hmul : p.length * j ≤ 40 := Nat.le_trans (Nat.mul_le_mul h4 hj) (by decide)
          have HO := hidP (or_put (n := p.length) (k := k) (x := x) (c := wIn p.length k x c0 j) (i := j) h4 hlt hjt (wIn_lt hlt HCB.out j hj))
          have HT := hidP (bit_tmod x j)
          go_wp2
          rw [HT.out, HO.out]
          refine ⟨⟨j + 1, by omega, by go_num, rfl⟩, ?_⟩
          simp [intOf]; omega
        · obtain rfl : j = 10 := by omega
          go_wp2
          go_round
          case rel => exact ⟨k + 1, by omega, by go_num, by rw [wOut, HC.out, HX.out]⟩
          case measure => simp [intOf]; omega
    · obtain rfl : k = p.length := by omega
      go_wp2
      go_ret
      exact ⟨by rw [HV.out]; rfl, rfl⟩

set_option maxHeartbeats 1000000 in
theorem sWeave (ao : Option Addr) (cap : Nat) (p : List Int) (w : World) (hv : View w ao p) (hn : p.length ≤ 1048576) :
    Calls Try.prog 18 #[.slice ao p.length cap] w fun e w' => e = .returned (.int .i64 (weaveV p)) ∧ w' = w := by
  rcases hl : lineB p with _ | _
  · have HL := hidP hl
    have HV := hidP (weaveV_out hl)
    clear hl
    go_enter Try.func18, Try.ntmps18
    go_wp2_with (go_at_call 53; refine (s8 ao cap p _ hv hn).mono ?_; rintro e w' ⟨rfl, rfl⟩; rw [HL.out])
    go_ret
    exact ⟨by rw [HV.out]; rfl, rfl⟩
  · rcases hv with rfl | ⟨b, off, rfl, hb, hs⟩
    · have := keepB_len hl; simp at this
    · exact sWeave_in b off cap p w hs hb hl
end Go.Proofs.Ytibkfdefoaimiaa
namespace Go.Proofs.Ytibkfdefoaimiaa
open Go Go.RowKit

/-- Are there n numbers of which Weave makes the code? -/
def codeB (c n : Int) : Bool := inR n 1 4 && inR c 0 (2 ^ (10 * n.toNat) - 1)
def unweaveL (c n : Int) : List Int := if codeB c n = true then tabL (fun k => (uF n.toNat c.toNat (10 * n.toNat) k : Int)) n.toNat else []

set_option maxHeartbeats 400000 in
theorem oMax (x y : Int) (w : World) :
    Calls Try.prog 42 #[.int .i64 x, .int .i64 y] w fun e w' => e = .returned (.int .i64 (max x y)) ∧ w' = w := by
  by_cases h : x ≤ y
  · have HV := hidP (show max x y = y by omega)
    go_enter Try.func42, Try.ntmps42
    go_wp2
    go_ret
    exact ⟨by rw [HV.out]; rfl, rfl⟩
  · have HV := hidP (show max x y = x by omega)
    go_enter Try.func42, Try.ntmps42
    go_wp2
    go_ret
    exact ⟨by rw [HV.out]; rfl, rfl⟩

set_option maxHeartbeats 400000 in
theorem oMin (x y : Int) (w : World) :
    Calls Try.prog 45 #[.int .i64 x, .int .i64 y] w fun e w' => e = .returned (.int .i64 (min x y)) ∧ w' = w := by
  by_cases h : x < y
  · have HV := hidP (show min x y = x by omega)
    go_enter Try.func45, Try.ntmps45
    go_wp2
    go_ret
    exact ⟨by rw [HV.out]; rfl, rfl⟩
  · have HV := hidP (show min x y = y by omega)
    go_enter Try.func45, Try.ntmps45
    go_wp2
    go_ret
    exact ⟨by rw [HV.out]; rfl, rfl⟩

theorem top_code {n : Nat} (h : n ≤ 4) : wrap64 (wrap64 (2 ^ (10 * n)) - 1) = 2 ^ (10 * n) - 1 := by
  rcases (show n = 0 ∨ n = 1 ∨ n = 2 ∨ n = 3 ∨ n = 4 by omega) with rfl | rfl | rfl | rfl | rfl <;> simp [wrap64]

/-- The numbers of the first s bits. -/
def uL (n c s : Nat) : List Int := tabL (fun k => (uF n c s k : Int)) n
theorem uL_len (n c s : Nat) : (uL n c s).length = n := by simp [uL, tabL]
theorem uL_zero (n c : Nat) : rowC (uL n c 0) = madeCells #[.int .i64 0] n := by
  rw [← filled_zero (fun _ => 0) n]
  unfold uL filled
  congr 1
  apply List.ext_getElem
  · simp [tabL]
  · intro i h1 h2; simp [tabL, uF]
theorem uL_nth {n c s k : Nat} (h : k < n) : nth (uL n c s) k = (uF n c s k : Int) := by
  simp [uL, nth, tabL, h]
theorem uL_succ {n c s : Nat} : (rowC (uL n c s)).setIfInBounds (s % n) (.int .i64 ((uF n c s (s % n) ||| bitN c s * 2 ^ (s / n) : Nat) : Int)) = rowC (uL n c (s + 1)) := by
  apply Array.ext
  · simp [rowC, uL_len]
  · intro i h1 h2
    simp [rowC, uL_len] at h1 h2
    simp only [rowC, uL, tabL, List.setIfInBounds_toArray, List.getElem_toArray, List.getElem_set, List.getElem_map, List.getElem_range, uF]
    by_cases e : s % n = i
    · subst e; simp
    · rw [if_neg e, if_neg (fun h => e h.symm)]
theorem uF_or_lt {n c s : Nat} (h : 0 < n) (hs : s < 10 * n) : uF n c s (s % n) < 1024 ∧ bitN c s * 2 ^ (s / n) < 1024 ∧ s / n < 10 := by
  have hm := Nat.mod_lt s h
  have h2 : s / n < 10 := (Nat.div_lt_iff_lt_mul h).2 hs
  refine ⟨uF_lt h c _ hm (by omega), ?_, h2⟩
  have h3 := bitN_lt c s
  have h4 : 2 ^ (s / n) < 2 ^ 10 := Nat.pow_lt_pow_right (by decide) h2
  rcases (show bitN c s = 0 ∨ bitN c s = 1 by omega) with e | e <;> rw [e] <;> omega

end Go.Proofs.Ytibkfdefoaimiaa
