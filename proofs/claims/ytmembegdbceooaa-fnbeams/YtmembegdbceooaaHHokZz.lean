/-
  The program's HitsOk, by itself (taken out of HMB, so that chapter 14's laws need not reach chapter 3's heap).
-/
import Derived.Test.YtmembegdbceooaaHSpecZz
import Derived.Test.YtmembegdbceooaaArgsZz
namespace Go.Proofs.Ytmembegdbceooaa
open Go Go.RowKit

set_option maxRecDepth 100000 in
set_option maxHeartbeats 2000000 in
theorem iHitsOk14 (ao : Option Addr) (cap : Nat) (hs : List Ht) (w : World) (hv : HView w ao hs) (hn : hs.length ≤ 1048576) :
    Calls Try.prog 14 #[.slice ao hs.length cap] w fun e w' => e = .returned (.bool (hitsB hs)) ∧ Below w.heap.size w w' := by
  go_enter Try.func14, Try.ntmps14
  go_wp2
  go_loopw [7] (fun i wr => ∃ k : Nat, k ≤ hs.length ∧ i = .int .i64 k ∧ (∀ j, j < k → hitOkAt hs j = true) ∧ Below w.heap.size w wr) (fun i _ => hs.length - (intOf i).toNat)
  case atStart => exact ⟨0, Nat.zero_le _, rfl, fun j hj => by omega, Below.refl _ _⟩
  case round =>
    obtain ⟨k, hk, rfl, hall, L⟩ := hrel
    have HA := hidP hall
    clear hall
    by_cases hlt : k < hs.length
    · obtain ⟨b, off, rfl, hb, hseg⟩ := hv.seg (by omega)
      have hsw := hseg.below hb L
      obtain ⟨hc0, hc1⟩ := hsw k hlt
      have hi0 : (0 : Int) ≤ (k : Int) := Int.natCast_nonneg _
      have hi1 : (k : Int) < (hs.length : Int) := by omega
      have HO := hidP (hitOkAt_false hs k)
      have HO1 := hidP (hitOkAt_iff hs k).2
      have hz := L.size
      have hbw : b < wr.heap.size := by omega
      have hB := (Below.refl wr.heap.size wr).alloc (Nat.le_refl _) (.cells #[.int .i64 (hnth hs k).1, .int .i64 (hnth hs k).2] 37)
      have HLL := hidP (L.trans (hB.mono hz))
      have HSW := hidP (hsw.below hbw hB)
      clear L hsw hB
      by_cases h1 : (hnth hs k).1 < 1
      · go_wp2
        go_ret
        exact ⟨ret_bool (hitsB_out hlt (HO.out (fun h => by omega))).symm, HLL.out⟩
      · by_cases h2 : (hnth hs k).2 < 0
        · go_wp2
          go_ret
          exact ⟨ret_bool (hitsB_out hlt (HO.out (fun h => by omega))).symm, HLL.out⟩
        · rcases Nat.eq_zero_or_pos k with h0 | h0
          · subst h0
            have hg : decide ((0 : Int) < 0) = false := by decide
            simp only [Nat.zero_mul, Nat.add_zero] at hc0 hc1
            have hne : hs ≠ [] := by intro h; subst h; simp at hlt
            go_wp2
            go_quiet (fail)
            go_wp2
            go_roundw
            case rel => exact ⟨1, by omega, by go_num, fun j hj => by
              rw [show j = 0 by omega]; exact HO1.out ⟨by omega, by omega, Or.inl (by trivial)⟩, below_drewN HLL.out _⟩
            case measure => simp [intOf]; omega
          · obtain ⟨j, rfl⟩ : ∃ j, k = j + 1 := ⟨k - 1, by omega⟩
            obtain ⟨hd0, hd1⟩ := HSW.out j (by omega)
            have hj0 : (0 : Int) ≤ (j : Int) := Int.natCast_nonneg _
            have hj1 : (j : Int) < (hs.length : Int) := by omega
            have hwr : IntKind.i64.wrap (((j + 1 : Nat) : Int) - 1) = j := by rw [IntWalk.i64_in _ ⟨by omega, by omega⟩]; omega
            have hwr2 : IntKind.i64.wrap ((j : Int) + 1 - 1) = j := by rw [IntWalk.i64_in _ ⟨by omega, by omega⟩]; omega
            have hwr3 : IntKind.i64.wrap (j : Int) = j := IntWalk.i64_in _ ⟨by omega, by omega⟩
            have hgd : (0 : Int) < ((j + 1 : Nat) : Int) := by omega
            have hgd2 : (0 : Int) < (j : Int) + 1 := by omega
            have hgd3 : (0 : Int) ≤ (j : Int) + 1 := by omega
            have hgd4 : (j : Int) + 1 < (hs.length : Int) := by omega
            obtain ⟨W, hW⟩ : ∃ W, W = wr.alloc (.cells #[.int .i64 (hnth hs (j + 1)).1, .int .i64 (hnth hs (j + 1)).2] 37) := ⟨_, rfl⟩
            have hk0 : (wr.alloc (.cells #[.int .i64 (hnth hs (j + 1)).1, .int .i64 (hnth hs (j + 1)).2] 37)).cell? ⟨wr.heap.size, 0, none⟩ = some (.int .i64 (hnth hs (j + 1)).1) := by simp
            have hk1 : (wr.alloc (.cells #[.int .i64 (hnth hs (j + 1)).1, .int .i64 (hnth hs (j + 1)).2] 37)).cell? ⟨wr.heap.size, 1, none⟩ = some (.int .i64 (hnth hs (j + 1)).2) := by simp
            have hwl : wr.heap.size < W.heap.size ∧ b < W.heap.size := by rw [hW]; simp; omega
            have HC := hidP (iAhead (hnth hs j) (hnth hs (j + 1)) W.drew)
            clear HSW
            go_wp2
            rw [← hW] at hk0 hk1 hd0 hd1 HLL ⊢
            clear hW
            go_region_held3 (fun w' => w'.cell? ⟨wr.heap.size, 0, none⟩ = some (.int .i64 (hnth hs (j + 1)).1) ∧ w'.cell? ⟨wr.heap.size, 1, none⟩ = some (.int .i64 (hnth hs (j + 1)).2) ∧ w'.cell? ⟨b, off + j * 2, none⟩ = some (.int .i64 (hnth hs j).1) ∧ w'.cell? ⟨b, off + j * 2 + 1, none⟩ = some (.int .i64 (hnth hs j).2))
              (first
                | go_keep
                | (refine ⟨(L3.cell (p := ⟨wr.heap.size, 0, none⟩) hwl.1).trans hk0, (L3.cell (p := ⟨wr.heap.size, 1, none⟩) hwl.1).trans hk1, (L3.cell (p := ⟨b, off + j * 2, none⟩) hwl.2).trans hd0, (L3.cell (p := ⟨b, off + j * 2 + 1, none⟩) hwl.2).trans hd1⟩))
              (first
                | (go_at_call 47; refine HC.out.mono ?_; rintro e w2 ⟨rfl, L3⟩))
            have LF := hidP (HLL.out.drew.trans (L3.mono HLL.out.size))
            clear L3
            rcases hf : aheadB (hnth hs j) (hnth hs (j + 1)) with _ | _
            · go_wp2
              go_ret
              exact ⟨ret_bool (hitsB_out hlt (HO.out (fun h => by have := h.2.2; simp at this; rw [hf] at this; cases this))).symm, LF.out⟩
            · go_wp2
              go_roundw
              case rel => exact ⟨j + 1 + 1, by omega, by go_num, fun i hi => by
                rcases Nat.lt_or_ge i (j + 1) with h | h
                · exact HA.out i h
                · rw [show i = j + 1 by omega]; exact HO1.out ⟨by omega, by omega, Or.inr hf⟩, LF.out⟩
              case measure => simp [intOf]; omega
    · go_wp2
      go_ret
      obtain rfl : k = hs.length := by omega
      exact ⟨ret_bool (Eq.symm (hitsB_mk HA.out)), L⟩

end Go.Proofs.Ytmembegdbceooaa
