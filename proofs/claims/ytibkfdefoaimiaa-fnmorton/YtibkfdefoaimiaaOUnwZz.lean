/-
  The given Unweave: its walk.
-/
import Derived.Test.YtibkfdefoaimiaaOWeaZz
import Derived.Test.YtibkfdefoaimiaaLast
namespace Go.Proofs.Ytibkfdefoaimiaa
open Go Go.RowKit

theorem wrap64_eq (x : Int) : wrap64 x = IntKind.i64.wrap x := by
  simp [wrap64, IntKind.wrap, IntKind.bits, IntKind.signed]
  try omega

set_option maxRecDepth 100000 in
set_option maxHeartbeats 4000000 in
theorem sUnw_in (c n : Nat) (w : World) (h1 : 1 ≤ n) (h4 : n ≤ 4) (hc : c < 2 ^ (10 * n)) :
    Calls Try.prog 20 #[.int .i64 (c : Int), .int .i64 (n : Int)] w fun e w' => e = .returned (.slice (some ⟨w.heap.size, 0, none⟩) n n) ∧ ∃ m, w' = (w.alloc (.cells (rowC (uL n c (10 * n))) 2)).drewN m := by
  have HIN := hidP (inR_true (x := (n : Int)) (lo := 1) (hi := 4) (by omega) (by omega))
  have HIC := hidP (show inR (c : Int) 0 (wrap64 (wrap64 (2 ^ (10 * n)) - 1)) = true by
    rw [top_code h4]
    exact inR_true (by omega) (by have : ((c : Nat) : Int) < ((2 ^ (10 * n) : Nat) : Int) := Int.ofNat_lt.2 hc; simp at this; omega))
  have HC := hidP (forty_le h4 hc)
  have HMN := hidP (show min (n : Int) 4 = n by omega)
  have HMX := hidP (show max 0 (n : Int) = n by omega)
  clear hc
  have hmk := run_make_row' (P := Try.prog) 24 2 (.int .i64 0) 8 Try.underlying24 Try.info2 rfl .i64 .i64 n (by omega) (by omega)
  go_enter Try.func20, Try.ntmps20
  go_wp2_with first
    | (go_at_call 54; have hh := HIN; clear HIN; refine (sIn (n : Int) 1 4 _).mono ?_; rintro e w' ⟨rfl, rfl⟩; rw [hh.out])
    | (go_at_call 45; refine (oMin (n : Int) 4 _).mono ?_; rintro e w' ⟨rfl, rfl⟩; rw [HMN.out])
    | (go_at_call 42; refine (oMax 0 (n : Int) _).mono ?_; rintro e w' ⟨rfl, rfl⟩; rw [HMX.out])
    | (go_at_call 54; have hh := HIC; clear HIC; refine (sIn (c : Int) 0 (wrap64 (wrap64 (2 ^ (10 * n)) - 1)) _).mono ?_; rintro e w' ⟨rfl, rfl⟩; rw [hh.out])
  clear hmk
  go_loopw [6] (fun i wr => ∃ s m : Nat, s ≤ 10 * n ∧ i = .int .i64 s ∧ wr = (w'.alloc (.cells (rowC (uL n c s)) 2)).drewN m) (fun i _ => 10 * n - (intOf i).toNat)
  case atStart => exact ⟨0, 0, Nat.zero_le _, rfl, by rw [uL_zero]; rfl⟩
  case round =>
    obtain ⟨s, m, hs, rfl, rfl⟩ := hrel
    by_cases hlt : s < 10 * n
    · obtain ⟨r, q, x, bt, y, z, hr, hrn, hq, hu1, hu2, hx, hbt, hmin1, hmin2, hy, hz, hnx⟩ : ∃ (r q : Nat) (x bt y : Nat) (z : Int), (s : Int).tmod (n : Int) = (r : Int) ∧ r < n ∧ (s : Int).tdiv (n : Int) = (q : Int) ∧ IntKind.u64.wrap (s : Int) = (s : Int) ∧ IntKind.u64.wrap (q : Int) = (q : Int) ∧
          nth (uL n c s) r = (x : Int) ∧ ((c : Int) / 2 ^ s).tmod 2 = (bt : Int) ∧ min s 64 = s ∧ min q 64 = q ∧ IntKind.i64.wrap ((bt : Int) * 2 ^ q) = (y : Int) ∧ bits .or .i64 (x : Int) (y : Int) = z ∧ (rowC (uL n c s)).setIfInBounds r (.int .i64 z) = rowC (uL n c (s + 1)) := by
        have hn0 : 0 < n := by omega
        have hm := Nat.mod_lt s hn0
        obtain ⟨l1, l2, l3⟩ := uF_or_lt (c := c) hn0 hlt
        refine ⟨s % n, s / n, uF n c s (s % n), bitN c s, bitN c s * 2 ^ (s / n), _, ?_, hm, ?_, ?_, ?_, uL_nth hm, bit_tmod c s, by omega, by omega, ?_, rfl, ?_⟩
        · rw [Int.tmod_eq_emod_of_nonneg (Int.natCast_nonneg _)]; rfl
        · rw [Int.tdiv_eq_ediv_of_nonneg (Int.natCast_nonneg _)]; rfl
        · simp [IntKind.wrap, IntKind.bits, IntKind.signed]; omega
        · generalize s / n = q at l3
          simp [IntKind.wrap, IntKind.bits, IntKind.signed]; omega
        · have e9 : ((bitN c s : Nat) : Int) * 2 ^ (s / n) = ((bitN c s * 2 ^ (s / n) : Nat) : Int) := by simp
          rw [e9]
          exact wrap_i64 (Int.natCast_nonneg _) (Int.ofNat_lt.2 (Nat.lt_trans l2 (by decide)))
        · rw [i64_or (Int.natCast_nonneg _) (Int.ofNat_lt.2 (Nat.lt_trans l1 (by decide))) (Int.natCast_nonneg _) (Int.ofNat_lt.2 (Nat.lt_trans l2 (by decide))), Int.toNat_natCast, Int.toNat_natCast]
          exact uL_succ
      have hcell : ((w'.alloc (.cells (rowC (uL n c s)) 2)).drewN m).cell? ⟨w'.heap.size, r, none⟩ = some (.int .i64 (x : Int)) := by
        have := (Own.new w' (uL n c s)).seg r (by rw [uL_len]; exact hrn)
        rw [Nat.zero_add, hx] at this
        exact this
      have hnz : ¬ n = 0 := by omega
      have hget : (rowC (uL n c s))[r]? = some (.int .i64 (x : Int)) := by rw [← hx]; exact rowC_at _ r (by rw [uL_len]; exact hrn)
      clear hx
      go_wp2_with fail
      refine wp_region_calm (S := fun V' => V'.cell? ⟨w'.heap.size, r, none⟩ = some (.int .i64 (x : Int))) (fuel := 0)
        [0, 1, 2, 3, 4, 5, 6, 7, 8, 9, 10, 11, 12, 13, 14, 15, 16, 17, 18, 19, 20, 21] _ rfl (by kernel_rfl) (by kernel_rfl) (by kernel_rfl) (by kernel_rfl) (by kernel_rfl) (by kernel_rfl) (by kernel_rfl) hcell (fun hS => ?_)
      simp only [List.pop_toArray, List.dropLast]
      iterate 22
        refine ⟨_, rfl, ?_⟩
        apply Exists.intro
        refine ⟨Or.inl ⟨by rfl, fun w' hw' => ?_⟩, ?_⟩
        · first
          | (go_simp; done)
          | (go_simp; with_reducible rfl)
        simp only [Act.put, List.getElem_toArray, List.getElem_cons_succ, List.getElem_cons_zero, List.setIfInBounds_toArray, List.set_cons_zero, List.set_cons_succ]
      refine wpAnyH_done (by kernel_rfl) ?_ _
      simp only [Exit.then]
      go_wp2_with fail
      refine NoPanic.normal ?_
      go_wp2
      go_roundw
      case rel => exact ⟨s + 1, m + 1, by omega, by go_num, by rw [← hnx, ← hz, ← hy, ← wrap64_eq]; exact set_new w' _ 2 (m + 1) r _⟩
      case measure => simp [intOf]; omega
    · obtain rfl : s = 10 * n := by omega
      go_wp2
      go_ret
      exact ⟨rfl, m, rfl⟩

theorem codeB_in {c n : Int} (h : codeB c n = true) : ∃ c' n' : Nat, c = (c' : Int) ∧ n = (n' : Int) ∧ 1 ≤ n' ∧ n' ≤ 4 ∧ c' < 2 ^ (10 * n') := by
  simp only [codeB, Bool.and_eq_true] at h
  obtain ⟨h1, h2⟩ := h
  have a1 := inR_of h1
  have a2 := inR_of h2
  refine ⟨c.toNat, n.toNat, by omega, by omega, by omega, by omega, ?_⟩
  have h3 : ((c.toNat : Nat) : Int) < ((2 ^ (10 * n.toNat) : Nat) : Int) := by
    have e : ((2 ^ (10 * n.toNat) : Nat) : Int) = 2 ^ (10 * n.toNat) := by simp
    rw [e]; omega
  exact Int.ofNat_lt.1 h3
theorem unweaveL_in {c n : Nat} (h : codeB (c : Int) (n : Int) = true) : unweaveL (c : Int) (n : Int) = uL n c (10 * n) := by
  unfold unweaveL
  rw [if_pos h]
  rfl
theorem unweaveL_out {c n : Int} (h : codeB c n = false) : unweaveL c n = [] := by
  unfold unweaveL
  rw [if_neg (by simp [h])]

set_option maxRecDepth 100000 in
set_option maxHeartbeats 2000000 in
theorem sUnw_bad (c n : Int) (w : World) (h : codeB c n = false) :
    Calls Try.prog 20 #[.int .i64 c, .int .i64 n] w fun e w' => e = .returned (.slice (some ⟨w.heap.size, 0, none⟩) 0 0) ∧ w' = w.alloc (.cells (rowC []) 2) := by
  rcases hn : inR n 1 4 with _ | _
  · have HIN := hidP hn
    clear hn h
    go_enter Try.func20, Try.ntmps20
    go_wp2_with (go_at_call 54; refine (sIn n 1 4 _).mono ?_; rintro e w' ⟨rfl, rfl⟩; rw [HIN.out])
    go_ret
    exact ⟨rfl, rfl⟩
  · have a1 := inR_of hn
    obtain ⟨n', rfl⟩ : ∃ n' : Nat, n = (n' : Int) := ⟨n.toNat, by omega⟩
    have h4 : n' ≤ 4 := by omega
    have h1 : 1 ≤ n' := by omega
    have HIC := hidP (show inR c 0 (wrap64 (wrap64 (2 ^ (10 * n')) - 1)) = false by
      rw [top_code h4]
      simp only [codeB, hn, Bool.true_and] at h
      exact h)
    have HIN := hidP hn
    have HMN := hidP (show min (n' : Int) 4 = n' by omega)
    have HMX := hidP (show max 0 (n' : Int) = n' by omega)
    clear hn h a1
    go_enter Try.func20, Try.ntmps20
    go_wp2_with first
      | (go_at_call 54; have hh := HIN; clear HIN; refine (sIn (n' : Int) 1 4 _).mono ?_; rintro e w' ⟨rfl, rfl⟩; rw [hh.out])
      | (go_at_call 45; refine (oMin (n' : Int) 4 _).mono ?_; rintro e w' ⟨rfl, rfl⟩; rw [HMN.out])
      | (go_at_call 42; refine (oMax 0 (n' : Int) _).mono ?_; rintro e w' ⟨rfl, rfl⟩; rw [HMX.out])
      | (go_at_call 54; have hh := HIC; clear HIC; refine (sIn c 0 (wrap64 (wrap64 (2 ^ (10 * n')) - 1)) _).mono ?_; rintro e w' ⟨rfl, rfl⟩; rw [hh.out])
    go_ret
    exact ⟨rfl, rfl⟩

theorem sUnw (c n : Int) (w : World) :
    Calls Try.prog 20 #[.int .i64 c, .int .i64 n] w fun e w' => ∃ b, e = .returned (.slice (some ⟨b, 0, none⟩) (unweaveL c n).length (unweaveL c n).length) ∧ Own w' b (unweaveL c n) ∧ w.heap.size ≤ b ∧ Below w.heap.size w w' := by
  rcases h : codeB c n with _ | _
  · rw [unweaveL_out h]
    refine (sUnw_bad c n w h).mono ?_
    rintro e w' ⟨rfl, rfl⟩
    exact ⟨_, rfl, Own.new w [], Nat.le_refl _, (Below.refl _ _).alloc (Nat.le_refl _) _⟩
  · obtain ⟨c', n', rfl, rfl, h1, h4, hc⟩ := codeB_in h
    rw [unweaveL_in h, uL_len]
    refine (sUnw_in c' n' w h1 h4 hc).mono ?_
    rintro e w' ⟨rfl, m, rfl⟩
    exact ⟨_, rfl, (Own.new w (uL n' c' (10 * n'))).drewN m, Nat.le_refl _, below_drewN ((Below.refl _ _).alloc (Nat.le_refl _) _) m⟩
end Go.Proofs.Ytibkfdefoaimiaa
