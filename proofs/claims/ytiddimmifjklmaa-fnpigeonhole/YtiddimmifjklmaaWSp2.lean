/-
  The given Parts of chapter 9.
-/
import Derived.Test.YtiddimmifjklmaaWSpec
import Derived.Deep.AppendLies
namespace Go.Proofs.Ytiddimmifjklmaa
open Go Go.RowKit

theorem partsL_bad {a n : Int} (h : ¬ (wordB a = true ∧ countB n = true)) : partsL a n = [] := if_neg h
theorem partsL_in {x k m : Nat} (hx : x < 65536) (hc : countB (k : Int) = true) (hm : m = 16 / k) : partsL (x : Int) (k : Int) = tabL (fun i => (partN x m i : Int)) k := by
  rw [partsL, if_pos ⟨wordB_nat hx, hc⟩, hm]; rfl
theorem part_step (x m i : Nat) : x / 2 ^ (i * m) / 2 ^ m = x / 2 ^ ((i + 1) * m) := by
  rw [Nat.div_div_eq_div_mul, ← Nat.pow_add, Nat.succ_mul]

set_option maxRecDepth 100000 in
set_option maxHeartbeats 1000000 in
theorem sParts_in (x n m : Nat) (w : World) (hx : x < 65536) (hc : countB (n : Int) = true) (hn : m * n = 16) :
    Calls Try.prog 20 #[.int .i64 (x : Int), .int .i64 (n : Int)] w fun e w' => ∃ g c, e = .returned (.slice (some ⟨g, 0, none⟩) n c) ∧ IRow w.heap.size w' g c (tabL (fun i => (partN x m i : Int)) n) ∧ Below w.heap.size w w' := by
  have HA := hidP (wordB_nat hx)
  have HC := hidP hc
  have HX := hidP hx
  have hn0 : ¬ n = 0 := by intro h; subst h; simp at hn
  have hdiv : (16 : Int).tdiv (n : Int) = (m : Int) := by
    rw [Int.tdiv_eq_ediv_of_nonneg (by decide), show (16 : Int) = ((16 : Nat) : Int) from rfl, ← Int.natCast_ediv, ← hn, Nat.mul_div_cancel _ (by omega)]
  have hm16 : m ≤ 16 := by rw [← hn]; exact Nat.le_mul_of_pos_right m (by omega)
  have hm0 : 0 < m := by rcases Nat.eq_zero_or_pos m with h | h; (subst h; simp at hn); exact h
  have hn16 : n ≤ 16 := by rw [← hn]; exact Nat.le_mul_of_pos_left n hm0
  have hmin : min m 64 = m := by omega
  have hp16 : (2 : Nat) ^ m ≤ 65536 := by have := Nat.pow_le_pow_right (n := 2) (by decide) hm16; simpa using this
  have hp0 := Nat.two_pow_pos m
  obtain ⟨P, hP⟩ : ∃ P, 2 ^ m = P := ⟨_, rfl⟩
  have hPi : (2 : Int) ^ m = (P : Int) := by rw [← hP]; simp
  rw [hP] at hp16 hp0
  have HP := hidP hP
  have HN := hidP hn
  clear hx hc hn hP
  obtain ⟨i0, hi0, hz0, hz1, hz2⟩ := info_parts Try.info2
  have R0 := hidP (IRow.start w w.heap.size (Nat.le_refl _))
  have L0 := hidP ((Below.refl w.heap.size w).alloc (Nat.le_refl _) (.cells #[] 2))
  go_enter Try.func20, Try.ntmps20
  go_wp2_with first
    | (go_at_call 50; refine (sWord (x : Int) _).mono ?_; rintro e w' ⟨rfl, rfl⟩; rw [HA.out])
    | (go_at_call 52; refine (sCount (n : Int) _).mono ?_; rintro e w' ⟨rfl, rfl⟩; rw [HC.out])
  clear hPi hdiv hmin
  go_loopw [0, 5, 7] (fun a v i wr => ∃ (k y g c : Nat), k ≤ n ∧ i = .int .i64 k ∧ a = .int .i64 (y : Int) ∧ y = x / 2 ^ (k * m) ∧ v = .slice (some ⟨g, 0, none⟩) k c ∧ IRow w.heap.size wr g c (tabL (fun i => (partN x m i : Int)) k) ∧ Below w.heap.size w wr) (fun _ _ i _ => n - (intOf i).toNat)
  case atStart => exact ⟨0, x, w.heap.size, 0, Nat.zero_le _, rfl, rfl, by simp, rfl, R0.out, L0.out⟩
  case round =>
    obtain ⟨k, y, g, c, hk, rfl, rfl, hy, rfl, hrow, L⟩ := hrel
    have HY := hidP hy
    have hyl : y < 65536 := by rw [hy]; exact Nat.lt_of_le_of_lt (Nat.div_le_self _ _) HX.out
    have HR := hidP hrow
    have HL := hidP L
    have hz := L.size
    have hgl := hrow.lt
    clear hy hrow L
    by_cases hlt : k < n
    · have hmod : (y : Int).tmod (P : Int) = ((y % P : Nat) : Int) := by rw [Int.tmod_eq_emod_of_nonneg (Int.natCast_nonneg _)]; rfl
      have hdv : (y : Int).tdiv (P : Int) = ((y / P : Nat) : Int) := by rw [Int.tdiv_eq_ediv_of_nonneg (Int.natCast_nonneg _)]; rfl
      have hlen : (tabL (fun i => (partN x m i : Int)) k).length = k := tabL_length _ _
      obtain ⟨r, hr⟩ : ∃ r, y % P = r := ⟨_, rfl⟩
      obtain ⟨q, hq⟩ : ∃ q, y / P = q := ⟨_, rfl⟩
      have HQ := hidP (show q = x / 2 ^ ((k + 1) * m) by rw [← hq, HY.out, ← HP.out, part_step])
      have HRR := hidP (show r = partN x m k by rw [← hr, HY.out, ← HP.out]; rfl)
      have hql : q < 65536 := by rw [← hq]; exact Nat.lt_of_le_of_lt (Nat.div_le_self _ _) hyl
      rw [hr] at hmod
      rw [hq] at hdv
      have hdw : IntKind.i64.wrap (q : Int) = (q : Int) := wrap_i64 (by omega) (by omega)
      have hOwn := hidP (show wr.ownsRow w.heap.size 2 1 (.slice (some ⟨g, 0, none⟩) k c) k ((tabL (fun i => (partN x m i : Int)) k).map (Value.int .i64)) by have := HR.out; unfold IRow at this; rw [hlen] at this; exact this)
      clear hr hq hlen
      go_wp2_with (at_builtin; refine wpList_append_lies _ rfl (.tmp 27) (.tmp 31) 24 rfl w.heap.size 2 i0 _ 1 8 Try.underlying24 hi0 hz0 hz1 hz2 rfl (by omega) (.slice (some ⟨g, 0, none⟩) k c) k ((tabL (fun i => (partN x m i : Int)) k).map (Value.int .i64)) rfl (World.ownsRow.alloc hOwn.out _) ⟨wr.heap.size, 0, none⟩ 1 1 [.int .i64 (r : Int)] rfl rfl (World.news_of_block (cs := #[.int .i64 (r : Int)]) (t := 2) (fr := (0, 0)) (heap_alloc_new wr _)) (by simp [Value.oneCell']) (by omega) (by unfold maxLen; omega) (by omega) (by simp; omega) (wr.heap.size + 1) (by simp) ?_; intro gg cc w8 hown hgrow hat8 hlt8)
      go_roundw
      case rel =>
        refine ⟨k + 1, q, gg, cc, by omega, by go_num, rfl, HQ.out, rfl, ?_, ?_⟩
        · refine IRow.of hown (by rw [tabL_length]) ?_
          rw [tabL_succ, List.map_append, HRR.out]; rfl
        · refine (HL.out.alloc hz _).grown hgrow (by simp; omega) ?_
          intro q hq
          simp [Value.ownBlock] at hq
          omega
      case measure => simp [intOf]; omega
    · obtain rfl : k = n := by omega
      go_wp2
      go_ret
      exact ⟨g, c, rfl, HR.out, HL.out⟩

set_option maxRecDepth 100000 in
set_option maxHeartbeats 1000000 in
theorem sParts (a n : Int) (w : World) :
    Calls Try.prog 20 #[.int .i64 a, .int .i64 n] w fun e w' => ∃ g c, e = .returned (.slice (some ⟨g, 0, none⟩) (partsL a n).length c) ∧ IRow w.heap.size w' g c (partsL a n) ∧ Below w.heap.size w w' := by
  have R0 := hidP (IRow.start w w.heap.size (Nat.le_refl _))
  have L0 := hidP ((Below.refl w.heap.size w).alloc (Nat.le_refl _) (.cells #[] 2))
  rcases ha : wordB a with _ | _
  · have HV := hidP (partsL_bad (a := a) (n := n) (by simp [ha]))
    have HA := hidP ha
    clear ha
    go_enter Try.func20, Try.ntmps20
    go_wp2_with (go_at_call 50; refine (sWord a _).mono ?_; rintro e w' ⟨rfl, rfl⟩; rw [HA.out])
    go_ret
    exact ⟨w.heap.size, 0, by rw [HV.out]; rfl, by rw [HV.out]; exact R0.out, L0.out⟩
  · rcases hc : countB n with _ | _
    · have HV := hidP (partsL_bad (a := a) (n := n) (by simp [hc]))
      have HA := hidP ha
      have HC := hidP hc
      clear ha hc
      go_enter Try.func20, Try.ntmps20
      go_wp2_with first
        | (go_at_call 50; refine (sWord a _).mono ?_; rintro e w' ⟨rfl, rfl⟩; rw [HA.out])
        | (go_at_call 52; refine (sCount n _).mono ?_; rintro e w' ⟨rfl, rfl⟩; rw [HC.out])
      go_ret
      exact ⟨w.heap.size, 0, by rw [HV.out]; rfl, by rw [HV.out]; exact R0.out, L0.out⟩
    · obtain ⟨x, rfl, hx⟩ : ∃ x : Nat, a = (x : Int) ∧ x < 65536 := ⟨a.toNat, by have := wordB_lt ha; omega, (wordB_lt ha).1⟩
      obtain ⟨k, m, rfl, hm, hm', h1, h8, h2⟩ := countB_of hc
      rw [partsL_in hx hc hm', tabL_length]
      exact sParts_in x k m w hx hc hm
end Go.Proofs.Ytiddimmifjklmaa
