/-
  The given order of hits, the least of two, is a number there, HitsOk.
-/
import Derived.Test.YtgfcdfiekancnaaHCells
import Derived.Test.YtgfcdfiekancnaaMOk2
import Derived.Deep.RegionHeld3
namespace Go.Proofs.Ytgfcdfiekancnaa
open Go Go.RowKit

theorem ahead_lt {a b : Ht} (h : a.2 < b.2) : aheadB a b = true := by rw [aheadB_iff]; omega
theorem ahead_id {a b : Ht} (h : a.2 = b.2) (h' : a.1 < b.1) : aheadB a b = true := by rw [aheadB_iff]; omega
theorem ahead_far {a b : Ht} (h : ¬ a.2 < b.2) (h' : ¬ a.2 = b.2) : aheadB a b = false := by rw [aheadB_false]; unfold leH; omega
theorem ahead_no {a b : Ht} (h : a.2 = b.2) (h' : ¬ a.1 < b.1) : aheadB a b = false := by rw [aheadB_false]; unfold leH; omega

set_option maxHeartbeats 400000 in
theorem sAhead (a b : Ht) (w : World) :
    Calls Try.prog 56 #[.agg #[.int .i64 a.1, .int .i64 a.2], .agg #[.int .i64 b.1, .int .i64 b.2]] w fun e w' => e = .returned (.bool (aheadB a b)) ∧ Below w.heap.size w w' := by
  have L0 : Below w.heap.size w ((w.alloc (.cells #[.int .i64 a.1, .int .i64 a.2] 68)).alloc (.cells #[.int .i64 b.1, .int .i64 b.2] 68)) :=
    ((Below.refl _ _).alloc (Nat.le_refl _) _).alloc (by simp) _
  by_cases h1 : a.2 < b.2
  · have HV := hidP (ahead_lt h1)
    go_enter Try.func56, Try.ntmps56
    go_wp2_with fail
    go_ret
    exact ⟨ret_bool HV.out.symm, L0⟩
  · by_cases h2 : a.2 = b.2
    · have h2b : (a.2 == b.2) = true := by simp [h2]
      by_cases h3 : a.1 < b.1
      · have HV := hidP (ahead_id h2 h3)
        clear h2
        go_enter Try.func56, Try.ntmps56
        go_wp2_with fail
        go_ret
        exact ⟨ret_bool HV.out.symm, L0⟩
      · have HV := hidP (ahead_no h2 h3)
        clear h2
        go_enter Try.func56, Try.ntmps56
        go_wp2_with fail
        go_ret
        exact ⟨ret_bool HV.out.symm, L0⟩
    · have h2b : (a.2 == b.2) = false := by simp [h2]
      have HV := hidP (ahead_far h1 h2)
      clear h2
      go_enter Try.func56, Try.ntmps56
      go_wp2_with fail
      go_ret
      exact ⟨ret_bool HV.out.symm, L0⟩

set_option maxHeartbeats 400000 in
theorem sMin (x y : Int) (w : World) :
    Calls Try.prog 65 #[.int .i64 x, .int .i64 y] w fun e w' => e = .returned (.int .i64 (min x y)) ∧ w' = w := by
  by_cases h : x < y
  · have HV : Hid (min x y = x) := by show min x y = x; omega
    go_enter Try.func65, Try.ntmps65
    go_wp2
    go_ret
    exact ⟨ret_int HV.out.symm, rfl⟩
  · have HV : Hid (min x y = y) := by show min x y = y; omega
    go_enter Try.func65, Try.ntmps65
    go_wp2
    go_ret
    exact ⟨ret_int HV.out.symm, rfl⟩

theorem contains_nth {xs : List Int} {k : Nat} {x : Int} (hk : k < xs.length) (h : nth xs k = x) : hasB xs x = true := by
  simp only [hasB, List.contains_iff_mem]
  have e : nth xs k = xs[k] := by simp [nth, List.getD, hk]
  rw [← h, e]
  exact List.getElem_mem hk
theorem contains_none {xs : List Int} {x : Int} (h : ∀ j, j < xs.length → nth xs j ≠ x) : hasB xs x = false := by
  rcases hb : hasB xs x with _ | _
  · rfl
  · simp only [hasB, List.contains_iff_mem] at hb
    obtain ⟨i, hi, e⟩ := List.getElem_of_mem hb
    exact absurd (by rw [← e]; simp [nth, List.getD, hi]) (h i hi)

set_option maxHeartbeats 400000 in
theorem sHas (ao : Option Addr) (cap : Nat) (xs : List Int) (x : Int) (w : World) (hv : View w ao xs) (hn : xs.length ≤ 4194304) :
    Calls Try.prog 47 #[.slice ao xs.length cap, .int .i64 x] w fun e w' => e = .returned (.bool (hasB xs x)) ∧ w' = w := by
  go_enter Try.func47, Try.ntmps47
  go_wp2
  go_loop [5] (fun i => ∃ k : Nat, k ≤ xs.length ∧ i = .int .i64 k ∧ ∀ j, j < k → nth xs j ≠ x) (fun i => xs.length - (intOf i).toNat)
  case atStart => exact ⟨0, Nat.zero_le _, rfl, fun j hj => by omega⟩
  case round =>
    obtain ⟨k, hk, rfl, hall⟩ := hrel
    have HA := hidP hall
    clear hall
    by_cases hlt : k < xs.length
    · obtain ⟨b, off, rfl, hb, hs⟩ : ∃ b off, ao = some ⟨b, off, none⟩ ∧ b < w.heap.size ∧ Seg w b off xs := by
        rcases hv with h | h
        · subst h; simp at hlt
        · exact h
      have hc := hs k hlt
      by_cases he : nth xs k = x
      · have HV := hidP (contains_nth hlt he)
        have heb : (nth xs k == x) = true := by simp [he]
        clear he
        go_wp2
        go_ret
        exact ⟨ret_bool HV.out.symm, rfl⟩
      · have heb : (nth xs k == x) = false := by simp [he]
        have HE := hidP he
        clear he
        go_wp2
        go_round
        case rel => exact ⟨k + 1, by omega, by go_num, fun j hj => by
          rcases Nat.lt_or_ge j k with h | h
          · exact HA.out j h
          · rw [show j = k by omega]; exact HE.out⟩
        case measure => simp [intOf]; omega
    · go_wp2
      go_ret
      obtain rfl : k = xs.length := by omega
      exact ⟨ret_bool (Eq.symm (contains_none HA.out)), rfl⟩

theorem hitOkAt_iff (hs : List Ht) (i : Nat) : hitOkAt hs i = true ↔ 1 ≤ (hnth hs i).1 ∧ 0 ≤ (hnth hs i).2 ∧ (i = 0 ∨ aheadB (hnth hs (i - 1)) (hnth hs i) = true) := by
  simp [hitOkAt, and_assoc]
theorem hitOkAt_false (hs : List Ht) (i : Nat) (h : ¬ (1 ≤ (hnth hs i).1 ∧ 0 ≤ (hnth hs i).2 ∧ (i = 0 ∨ aheadB (hnth hs (i - 1)) (hnth hs i) = true))) : hitOkAt hs i = false := by
  rcases hb : hitOkAt hs i with _ | _
  · rfl
  · exact absurd ((hitOkAt_iff hs i).1 hb) h

set_option maxHeartbeats 600000 in
theorem sHitsOk (ao : Option Addr) (cap : Nat) (hs : List Ht) (w : World) (hv : HView w ao hs) (hn : hs.length ≤ 1048576) :
    Calls Try.prog 31 #[.slice ao hs.length cap] w fun e w' => e = .returned (.bool (hitsB hs)) ∧ Below w.heap.size w w' := by
  go_enter Try.func31, Try.ntmps31
  go_wp2
  go_loopw [3] (fun i wr => ∃ k : Nat, k ≤ hs.length ∧ i = .int .i64 k ∧ (∀ j, j < k → hitOkAt hs j = true) ∧ Below w.heap.size w wr) (fun i _ => hs.length - (intOf i).toNat)
  case atStart => exact ⟨0, Nat.zero_le _, rfl, fun j hj => by omega, Below.refl _ _⟩
  case round =>
    obtain ⟨k, hk, rfl, hall, L⟩ := hrel
    have HA := hidP hall
    clear hall
    by_cases hlt : k < hs.length
    · obtain ⟨b, off, rfl, hb, hseg⟩ := hv.seg (by omega)
      have hsw := hseg.below hb L
      obtain ⟨hc0, hc1⟩ := hsw k hlt
      have hi0 : (0 : Int) ≤ (k : Int) := Int.natCast_nonneg _
      have hi1 : (k : Int) < (hs.length : Int) := by omega
      have HO := hidP (hitOkAt_false hs k)
      have HO1 := hidP (hitOkAt_iff hs k).2
      have HLL := hidP L
      have hz := L.size
      have hbw : b < wr.heap.size := by omega
      have HSW := hidP hsw
      clear L hsw
      by_cases h1 : (hnth hs k).1 < 1
      · have hx1 : decide ((hnth hs k).1 < 1) = true := by simp; omega
        have hx2 : (hnth hs k).1 ≤ 0 := by omega
        go_wp2
        go_quiet (fail)
        go_wp2
        go_ret
        exact ⟨ret_bool (hitsB_out hlt (HO.out (fun h => by omega))).symm, below_drewN HLL.out _⟩
      · have hx1 : decide ((hnth hs k).1 < 1) = false := by simp; omega
        by_cases h2 : (hnth hs k).2 < 0
        · have hx2 : decide ((hnth hs k).2 < 0) = true := by simp; omega
          go_wp2
          go_quiet (fail)
          go_wp2
          go_ret
          exact ⟨ret_bool (hitsB_out hlt (HO.out (fun h => by omega))).symm, below_drewN HLL.out _⟩
        · have hx2 : decide ((hnth hs k).2 < 0) = false := by simp; omega
          rcases Nat.eq_zero_or_pos k with h0 | h0
          · subst h0
            have hg : decide ((0 : Int) < 0) = false := by decide
            simp only [Nat.zero_mul, Nat.add_zero] at hc0 hc1
            have hne : hs ≠ [] := by intro h; subst h; simp at hlt
            go_wp2
            go_quiet (fail)
            go_wp2
            go_roundw
            case rel => exact ⟨1, by omega, by go_num, fun j hj => by
              rw [show j = 0 by omega]; exact HO1.out ⟨by omega, by omega, Or.inl (by trivial)⟩, below_drewN HLL.out _⟩
            case measure => simp [intOf]; omega
          · obtain ⟨j, rfl⟩ : ∃ j, k = j + 1 := ⟨k - 1, by omega⟩
            obtain ⟨hd0, hd1⟩ := HSW.out j (by omega)
            have hj0 : (0 : Int) ≤ (j : Int) := Int.natCast_nonneg _
            have hj1 : (j : Int) < (hs.length : Int) := by omega
            have hwr : IntKind.i64.wrap (((j + 1 : Nat) : Int) - 1) = j := by rw [IntWalk.i64_in _ ⟨by omega, by omega⟩]; omega
            have hwr2 : IntKind.i64.wrap ((j : Int) + 1 - 1) = j := by rw [IntWalk.i64_in _ ⟨by omega, by omega⟩]; omega
            have hwr3 : IntKind.i64.wrap (j : Int) = j := IntWalk.i64_in _ ⟨by omega, by omega⟩
            have hgd : (0 : Int) < ((j + 1 : Nat) : Int) := by omega
            have hgd2 : (0 : Int) < (j : Int) + 1 := by omega
            have hgd3 : (0 : Int) ≤ (j : Int) + 1 := by omega
            have hgd4 : (j : Int) + 1 < (hs.length : Int) := by omega
            have HC := hidP (sAhead (hnth hs j) (hnth hs (j + 1)) wr.drew)
            clear HSW
            go_wp2
            go_region_held3 (fun w' => w'.cell? ⟨b, off + (j + 1) * 2, none⟩ = some (.int .i64 (hnth hs (j + 1)).1) ∧ w'.cell? ⟨b, off + (j + 1) * 2 + 1, none⟩ = some (.int .i64 (hnth hs (j + 1)).2) ∧ w'.cell? ⟨b, off + j * 2, none⟩ = some (.int .i64 (hnth hs j).1) ∧ w'.cell? ⟨b, off + j * 2 + 1, none⟩ = some (.int .i64 (hnth hs j).2))
              (first
                | go_keep
                | (refine ⟨(L3.cell (p := ⟨b, off + (j + 1) * 2, none⟩) hbw).trans hc0, (L3.cell (p := ⟨b, off + (j + 1) * 2 + 1, none⟩) hbw).trans hc1, (L3.cell (p := ⟨b, off + j * 2, none⟩) hbw).trans hd0, (L3.cell (p := ⟨b, off + j * 2 + 1, none⟩) hbw).trans hd1⟩))
              (first
                | (go_at_call 56; refine HC.out.mono ?_; rintro e w2 ⟨rfl, L3⟩))
            have LF := hidP (HLL.out.drew.trans (L3.mono (by simp; omega)))
            clear L3
            rcases hf : aheadB (hnth hs j) (hnth hs (j + 1)) with _ | _
            · go_wp2
              go_ret
              exact ⟨ret_bool (hitsB_out hlt (HO.out (fun h => by have := h.2.2; simp at this; rw [hf] at this; cases this))).symm, LF.out⟩
            · go_wp2
              go_roundw
              case rel => exact ⟨j + 1 + 1, by omega, by go_num, fun i hi => by
                rcases Nat.lt_or_ge i (j + 1) with h | h
                · exact HA.out i h
                · rw [show i = j + 1 by omega]; exact HO1.out ⟨by omega, by omega, Or.inr hf⟩, LF.out⟩
              case measure => simp [intOf]; omega
    · go_wp2
      go_ret
      obtain rfl : k = hs.length := by omega
      exact ⟨ret_bool (Eq.symm (hitsB_mk HA.out)), L⟩

end Go.Proofs.Ytgfcdfiekancnaa
