/-
  The program's own Merged and HitsOk.
-/
import Derived.Test.YtgfcdfiekancnaaHMA
namespace Go.Proofs.Ytgfcdfiekancnaa
open Go Go.RowKit

theorem append_none (ao : Option Addr) (cap : Nat) (ty : TypeId) (w : World) : (Builtin.append_ #[28, 28] ty #[.slice none 0 0, .slice ao 0 cap]).run Try.prog w = .ok (.slice none 0 0) w := by
  unfold Builtin.append_
  cases ao with
  | none => simp [go_sem]
  | some a => simp [go_sem]

set_option maxRecDepth 100000 in
set_option maxHeartbeats 4000000 in
theorem iConcat0 (A : Nat) (ao ao' : Option Addr) (cap cap' : Nat) (w : World) (hc0 : w.cell? ⟨A, 0, none⟩ = some (.slice ao 0 cap)) (hc1 : w.cell? ⟨A, 1, none⟩ = some (.slice ao' 0 cap')) :
    Calls Try.prog 44 #[.slice (some ⟨A, 0, none⟩) 2 2] w fun e w' => e = .returned (.slice none 0 0) ∧ w' = w := by
  go_enter Try.func44, Try.ntmps44
  go_wp2
  go_loop [3, 11] (fun s i => ∃ k : Nat, k ≤ 2 ∧ i = .int .i64 k ∧ s = .int .i64 0) (fun _ i => 2 - (intOf i).toNat)
  case atStart => exact ⟨0, by omega, rfl, rfl⟩
  case round =>
    obtain ⟨k, hk, rfl, rfl⟩ := hrel
    match k, hk with
    | 0, _ =>
      go_wp2
      go_round
      case rel => exact ⟨1, by omega, by go_num, rfl⟩
      case measure => simp [intOf]
    | 1, _ =>
      go_wp2
      go_round
      case rel => exact ⟨2, by omega, by go_num, rfl⟩
      case measure => simp [intOf]
    | 2, _ =>
      have HG := hidP (iGrow0 w)
      go_wp2_with fail
      refine HG.out.mono ?_
      rintro e w1 ⟨rfl, rfl⟩
      go_wp2
      go_loop [6, 27] (fun v i => ∃ k : Nat, k ≤ 2 ∧ i = .int .i64 k ∧ v = .slice none 0 0) (fun _ i => 2 - (intOf i).toNat)
      case atStart => exact ⟨0, by omega, rfl, rfl⟩
      case round =>
        obtain ⟨k, hk, rfl, rfl⟩ := hrel
        match k, hk with
        | 0, _ =>
          go_wp2_with (at_builtin; refine Lib.wpList_append_run _ rfl _ _ _ _ rfl _ _ rfl rfl _ _ (append_none ao cap _ _) ?_)
          go_round
          case rel => exact ⟨1, by omega, by go_num, rfl⟩
          case measure => simp [intOf]
        | 1, _ =>
          go_wp2_with (at_builtin; refine Lib.wpList_append_run _ rfl _ _ _ _ rfl _ _ rfl rfl _ _ (append_none ao' cap' _ _) ?_)
          go_round
          case rel => exact ⟨2, by omega, by go_num, rfl⟩
          case measure => simp [intOf]
        | 2, _ =>
          go_wp2
          go_ret
          exact ⟨rfl, rfl⟩

set_option maxHeartbeats 2000000 in
theorem iMerged (ao ao' : Option Addr) (cap cap' : Nat) (aa bb : List Ht) (k : Int) (w : World) (hv : HView w ao aa) (hv' : HView w ao' bb) (hsum : aa.length + bb.length ≤ 1048576) :
    Calls Try.prog 12 #[.slice ao aa.length cap, .slice ao' bb.length cap', .int .i64 k] w fun e w' => ∃ v, e = .returned v ∧ HOut w.heap.size w' v (mergedL aa bb k) ∧ Below w.heap.size w w' := by
  have HK := hidP (iCount k w)
  rcases hk : countB k with _ | _
  · have HV : Hid (mergedL aa bb k = []) := by show mergedL aa bb k = []; simp [mergedL, hk]
    rw [hk] at HK
    go_enter Try.func12, Try.ntmps12
    go_wp2_with fail
    refine HK.out.mono ?_
    rintro e w1 ⟨rfl, rfl⟩
    go_wp2_with fail
    go_ret
    exact ⟨_, rfl, Or.inl ⟨rfl, HV.out⟩, Below.refl _ _⟩
  · rw [hk] at HK
    have HV : Hid (mergedL aa bb k = (onceL (sortL (aa ++ bb))).take k.toNat) := by
      show mergedL aa bb k = _
      simp [mergedL, hk]
    have hk0 : 0 ≤ k := by simp [countB] at hk; omega
    have hB := (Below.refl w.heap.size w).alloc (Nat.le_refl _) (.cells #[.slice ao aa.length cap, .slice ao' bb.length cap'] 28)
    have hc0 : (w.alloc (.cells #[.slice ao aa.length cap, .slice ao' bb.length cap'] 28)).cell? ⟨w.heap.size, 0, none⟩ = some (.slice ao aa.length cap) := by simp
    have hc1 : (w.alloc (.cells #[.slice ao aa.length cap, .slice ao' bb.length cap'] 28)).cell? ⟨w.heap.size, 1, none⟩ = some (.slice ao' bb.length cap') := by simp
    have hA : w.heap.size < (w.alloc (.cells #[.slice ao aa.length cap, .slice ao' bb.length cap'] 28)).heap.size := by simp
    by_cases h0 : aa.length + bb.length = 0
    · have ha : aa = [] := List.length_eq_zero_iff.1 (by omega)
      have hb : bb = [] := List.length_eq_zero_iff.1 (by omega)
      subst ha hb
      have HC := hidP (iConcat0 w.heap.size ao ao' cap cap' _ hc0 hc1)
      have HV0 : Hid (mergedL [] [] k = []) := by show mergedL [] [] k = []; rw [HV.out]; simp [sortL_nil, onceL, onceG]
      have HB := hidP hB
      clear hv hv' hB hc0 hc1 hA
      go_enter Try.func12, Try.ntmps12
      go_wp2_with fail
      refine HK.out.mono ?_
      rintro e w1 ⟨rfl, rfl⟩
      go_wp2_with fail
      refine HC.out.mono ?_
      rintro e w2 ⟨rfl, hw2⟩
      have HH := hidP (iHeaped0 w2)
      have hl2 : Below w1.heap.size w1 w2 := by rw [hw2]; exact HB.out
      have HL2 := hidP hl2
      clear hw2 hl2
      go_wp2_with fail
      refine HH.out.mono ?_
      rintro e w3 ⟨rfl, hw3⟩
      have hB3 := (Below.refl w2.heap.size w2).alloc (Nat.le_refl _) (.cells #[.slice none 0 0] 93)
      have HF := hidP (iFirst0 w2.heap.size k w3 (by rw [hw3]; simp) (by rw [hw3]; simp))
      rw [← hw3] at hB3
      have HL3 := hidP (chain HL2.out hB3)
      clear hw3 hB3
      go_wp2_with fail
      refine HF.out.mono ?_
      rintro e w4 ⟨t, ct, rfl, hr4, hb4⟩
      go_wp2_with fail
      go_ret
      rw [HV0.out]
      exact ⟨_, rfl, Or.inr ⟨t, ct, rfl, hr4.mono HL3.out.size⟩, chain HL3.out hb4⟩
    · have HC := hidP (iConcat w.heap.size ao ao' cap cap' aa bb _ hA hc0 hc1 (hv.next hB) (hv'.next hB) (by omega) (by omega) (by omega))
      have HB := hidP hB
      clear hv hv' hB hc0 hc1 hA h0
      go_enter Try.func12, Try.ntmps12
      go_wp2_with fail
      refine HK.out.mono ?_
      rintro e w1 ⟨rfl, rfl⟩
      go_wp2_with fail
      refine HC.out.mono ?_
      rintro e w2 ⟨g, c, rfl, hr2, L2⟩
      have hh2 := iHeaped _ g c (aa ++ bb) w2 hr2 (by rw [List.length_append]; exact hsum)
      rw [List.length_append] at hh2
      have HH := hidP hh2
      have HL2 := hidP (And.intro (chain HB.out L2) (Nat.le_trans HB.out.size hr2.lt.1))
      clear hr2 L2 hh2
      go_wp2_with fail
      refine HH.out.mono ?_
      rintro e w3 ⟨rfl, l', hA, hg3, hpm, hh⟩
      have hl' : l'.length ≤ 1048576 := by rw [hpm.length_eq, List.length_append]; exact hsum
      have HF := hidP (iFirst _ w2.heap.size g c k l' w3 hA hl' hh hk0)
      rw [sortL_congr hpm, ← HV.out] at HF
      obtain ⟨h1, h2⟩ := HL2.out
      have HX := hidP (And.intro (h1.grown hg3 h1.size (by intro k hk; cases hk; exact h2)) (And.intro h1.size h2))
      clear hpm hh hA hg3 hl' h1 h2
      go_wp2_with fail
      refine HF.out.mono ?_
      rintro e w4 ⟨t, ct, rfl, hr4, hc4⟩
      go_wp2_with fail
      go_ret
      obtain ⟨h1, h2, h3⟩ := HX.out
      exact ⟨_, rfl, Or.inr ⟨t, ct, rfl, hr4.mono h1.size⟩, below_chg h1 hc4 h1.size h2 h3⟩

set_option maxRecDepth 100000 in
set_option maxHeartbeats 2000000 in
theorem iHitsOk (ao : Option Addr) (cap : Nat) (hs : List Ht) (w : World) (hv : HView w ao hs) (hn : hs.length ≤ 1048576) :
    Calls Try.prog 32 #[.slice ao hs.length cap] w fun e w' => e = .returned (.bool (hitsB hs)) ∧ Below w.heap.size w w' := by
  go_enter Try.func32, Try.ntmps32
  go_wp2
  go_loopw [7] (fun i wr => ∃ k : Nat, k ≤ hs.length ∧ i = .int .i64 k ∧ (∀ j, j < k → hitOkAt hs j = true) ∧ Below w.heap.size w wr) (fun i _ => hs.length - (intOf i).toNat)
  case atStart => exact ⟨0, Nat.zero_le _, rfl, fun j hj => by omega, Below.refl _ _⟩
  case round =>
    obtain ⟨k, hk, rfl, hall, L⟩ := hrel
    have HA := hidP hall
    clear hall
    by_cases hlt : k < hs.length
    · obtain ⟨b, off, rfl, hb, hseg⟩ := hv.seg (by omega)
      have hsw := hseg.below hb L
      obtain ⟨hc0, hc1⟩ := hsw k hlt
      have hi0 : (0 : Int) ≤ (k : Int) := Int.natCast_nonneg _
      have hi1 : (k : Int) < (hs.length : Int) := by omega
      have HO := hidP (hitOkAt_false hs k)
      have HO1 := hidP (hitOkAt_iff hs k).2
      have hz := L.size
      have hbw : b < wr.heap.size := by omega
      have hB := (Below.refl wr.heap.size wr).alloc (Nat.le_refl _) (.cells #[.int .i64 (hnth hs k).1, .int .i64 (hnth hs k).2] 68)
      have HLL := hidP (L.trans (hB.mono hz))
      have HSW := hidP (hsw.below hbw hB)
      clear L hsw hB
      by_cases h1 : (hnth hs k).1 < 1
      · go_wp2
        go_ret
        exact ⟨ret_bool (hitsB_out hlt (HO.out (fun h => by omega))).symm, HLL.out⟩
      · by_cases h2 : (hnth hs k).2 < 0
        · go_wp2
          go_ret
          exact ⟨ret_bool (hitsB_out hlt (HO.out (fun h => by omega))).symm, HLL.out⟩
        · rcases Nat.eq_zero_or_pos k with h0 | h0
          · subst h0
            have hg : decide ((0 : Int) < 0) = false := by decide
            simp only [Nat.zero_mul, Nat.add_zero] at hc0 hc1
            have hne : hs ≠ [] := by intro h; subst h; simp at hlt
            go_wp2
            go_quiet (fail)
            go_wp2
            go_roundw
            case rel => exact ⟨1, by omega, by go_num, fun j hj => by
              rw [show j = 0 by omega]; exact HO1.out ⟨by omega, by omega, Or.inl (by trivial)⟩, below_drewN HLL.out _⟩
            case measure => simp [intOf]; omega
          · obtain ⟨j, rfl⟩ : ∃ j, k = j + 1 := ⟨k - 1, by omega⟩
            obtain ⟨hd0, hd1⟩ := HSW.out j (by omega)
            have hj0 : (0 : Int) ≤ (j : Int) := Int.natCast_nonneg _
            have hj1 : (j : Int) < (hs.length : Int) := by omega
            have hwr : IntKind.i64.wrap (((j + 1 : Nat) : Int) - 1) = j := by rw [IntWalk.i64_in _ ⟨by omega, by omega⟩]; omega
            have hwr2 : IntKind.i64.wrap ((j : Int) + 1 - 1) = j := by rw [IntWalk.i64_in _ ⟨by omega, by omega⟩]; omega
            have hwr3 : IntKind.i64.wrap (j : Int) = j := IntWalk.i64_in _ ⟨by omega, by omega⟩
            have hgd : (0 : Int) < ((j + 1 : Nat) : Int) := by omega
            have hgd2 : (0 : Int) < (j : Int) + 1 := by omega
            have hgd3 : (0 : Int) ≤ (j : Int) + 1 := by omega
            have hgd4 : (j : Int) + 1 < (hs.length : Int) := by omega
            obtain ⟨W, hW⟩ : ∃ W, W = wr.alloc (.cells #[.int .i64 (hnth hs (j + 1)).1, .int .i64 (hnth hs (j + 1)).2] 68) := ⟨_, rfl⟩
            have hk0 : (wr.alloc (.cells #[.int .i64 (hnth hs (j + 1)).1, .int .i64 (hnth hs (j + 1)).2] 68)).cell? ⟨wr.heap.size, 0, none⟩ = some (.int .i64 (hnth hs (j + 1)).1) := by simp
            have hk1 : (wr.alloc (.cells #[.int .i64 (hnth hs (j + 1)).1, .int .i64 (hnth hs (j + 1)).2] 68)).cell? ⟨wr.heap.size, 1, none⟩ = some (.int .i64 (hnth hs (j + 1)).2) := by simp
            have hwl : wr.heap.size < W.heap.size ∧ b < W.heap.size := by rw [hW]; simp; omega
            have HC := hidP (iAhead (hnth hs j) (hnth hs (j + 1)) W.drew)
            clear HSW
            go_wp2
            rw [← hW] at hk0 hk1 hd0 hd1 HLL ⊢
            clear hW
            go_region_held3 (fun w' => w'.cell? ⟨wr.heap.size, 0, none⟩ = some (.int .i64 (hnth hs (j + 1)).1) ∧ w'.cell? ⟨wr.heap.size, 1, none⟩ = some (.int .i64 (hnth hs (j + 1)).2) ∧ w'.cell? ⟨b, off + j * 2, none⟩ = some (.int .i64 (hnth hs j).1) ∧ w'.cell? ⟨b, off + j * 2 + 1, none⟩ = some (.int .i64 (hnth hs j).2))
              (first
                | go_keep
                | (refine ⟨(L3.cell (p := ⟨wr.heap.size, 0, none⟩) hwl.1).trans hk0, (L3.cell (p := ⟨wr.heap.size, 1, none⟩) hwl.1).trans hk1, (L3.cell (p := ⟨b, off + j * 2, none⟩) hwl.2).trans hd0, (L3.cell (p := ⟨b, off + j * 2 + 1, none⟩) hwl.2).trans hd1⟩))
              (first
                | (go_at_call 57; refine HC.out.mono ?_; rintro e w2 ⟨rfl, L3⟩))
            have LF := hidP (HLL.out.drew.trans (L3.mono HLL.out.size))
            clear L3
            rcases hf : aheadB (hnth hs j) (hnth hs (j + 1)) with _ | _
            · go_wp2
              go_ret
              exact ⟨ret_bool (hitsB_out hlt (HO.out (fun h => by have := h.2.2; simp at this; rw [hf] at this; cases this))).symm, LF.out⟩
            · go_wp2
              go_roundw
              case rel => exact ⟨j + 1 + 1, by omega, by go_num, fun i hi => by
                rcases Nat.lt_or_ge i (j + 1) with h | h
                · exact HA.out i h
                · rw [show i = j + 1 by omega]; exact HO1.out ⟨by omega, by omega, Or.inr hf⟩, LF.out⟩
              case measure => simp [intOf]; omega
    · go_wp2
      go_ret
      obtain rfl : k = hs.length := by omega
      exact ⟨ret_bool (Eq.symm (hitsB_mk HA.out)), L⟩

end Go.Proofs.Ytgfcdfiekancnaa
