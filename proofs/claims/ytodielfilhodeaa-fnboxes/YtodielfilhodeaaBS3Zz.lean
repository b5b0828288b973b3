/-
  The given Around.
-/
import Derived.Test.YtodielfilhodeaaBI4Zz
import Derived.Test.YtodielfilhodeaaAppendZz
import Derived.Test.YtodielfilhodeaaLastZz
import Derived.Deep.RegionHeld3
import Derived.Deep.CutRange
namespace Go.Proofs.Ytodielfilhodeaa
open Go Go.RowKit

theorem sMin (x y : Int) (w : World) :
    Calls Try.prog 72 #[.int .i64 x, .int .i64 y] w fun e w' => e = .returned (.int .i64 (min x y)) ∧ w' = w := by
  by_cases h : x < y
  · have HV : Hid (min x y = x) := by show min x y = x; omega
    go_enter Try.func72, Try.ntmps72
    go_wp2
    go_ret
    exact ⟨ret_int HV.out.symm, rfl⟩
  · have HV : Hid (min x y = y) := by show min x y = y; omega
    go_enter Try.func72, Try.ntmps72
    go_wp2
    go_ret
    exact ⟨ret_int HV.out.symm, rfl⟩

theorem lowL_zero (ms : List Mk) : lowL ms 0 = mat ms 0 := tabL_list (mat ms 0)
theorem highL_zero (ms : List Mk) : highL ms 0 = mat ms 0 := tabL_list (mat ms 0)
theorem lowTo_next (ms : List Mk) (k : Nat) {j : Nat} (h : 1 ≤ j) : lowTo ms k j = min (lowTo ms k (j - 1)) (nth (mat ms j) k) := by
  obtain ⟨i, rfl⟩ : ∃ i, j = i + 1 := ⟨j - 1, by omega⟩
  rfl
theorem highTo_next (ms : List Mk) (k : Nat) {j : Nat} (h : 1 ≤ j) : highTo ms k j = maxV (highTo ms k (j - 1)) (nth (mat ms j) k) := by
  obtain ⟨i, rfl⟩ : ∃ i, j = i + 1 := ⟨j - 1, by omega⟩
  rfl
theorem IRow.drew {base : Nat} {w : World} {g c : Nat} {xs : List Int} (h : IRow base w g c xs) : IRow base w.drew g c xs := h
/-- A box under way: its block D, and its two rows. -/
def BoxAt (base : Nat) (w : World) (D g1 c1 g2 c2 n : Nat) (lo hi : List Int) : Prop :=
  Two w D (.slice (some ⟨g1, 0, none⟩) n c1) (.slice (some ⟨g2, 0, none⟩) n c2) 26 ∧ IRow base w g1 c1 lo ∧ IRow base w g2 c2 hi ∧ g1 ≠ g2 ∧ D ≠ g1 ∧ D ≠ g2 ∧ base ≤ D

theorem boxAt_mk {base : Nat} {w w2 : World} {D g1 c1 g2 c2 n : Nat} {lo hi : List Int} (two : Two w D (.slice (some ⟨g1, 0, none⟩) n c1) (.slice (some ⟨g2, 0, none⟩) n c2) 26) (r1 : IRow base w g1 c1 lo) (r2 : IRow base w g2 c2 hi)
    (n1 : g1 ≠ g2) (n2 : D ≠ g1) (n3 : D ≠ g2) (n4 : base ≤ D) (bel : Below base w2 w) :
    ∃ D' g1 c1 g2 c2, Value.pointer (some ⟨D, 0, none⟩) = .pointer (some ⟨D', 0, none⟩) ∧ BoxAt base w D' g1 c1 g2 c2 n lo hi ∧ Below base w2 w := ⟨D, g1, c1, g2, c2, rfl, ⟨two, r1, r2, n1, n2, n3, n4⟩, bel⟩

set_option maxRecDepth 100000 in
set_option maxHeartbeats 4000000 in
theorem sAround (ao : Option Addr) (cap : Nat) (ms : List Mk) (w : World) (hv : MView w ao ms) (hsm : MSmall ms) :
    Calls Try.prog 21 #[.slice ao ms.length cap] w fun e w' => ∃ a1 c1 a2 c2, e = .returned (.agg #[.slice a1 (aroundV ms).1.length c1, .slice a2 (aroundV ms).2.length c2]) ∧ View w' a1 (aroundV ms).1 ∧ View w' a2 (aroundV ms).2 ∧ Below w.heap.size w w' := by
  have hn := hsm.1
  obtain ⟨W, hW⟩ : ∃ W, W = w.alloc (.cells #[.slice none 0 0, .slice none 0 0] 26) := ⟨_, rfl⟩
  have hB : Below w.heap.size w W := by rw [hW]; exact alloc_below w _
  have t0 : Two W w.heap.size (.slice none 0 0) (.slice none 0 0) 26 := by rw [hW]; exact Two.new w _ _ _
  have hnone : ∀ (w2 : World), Below w.heap.size w w2 → aroundV ms = ([], []) → ∃ a1 c1 a2 c2, Ending.returned (.agg #[.slice none 0 0, .slice none 0 0]) = Ending.returned (.agg #[.slice a1 (aroundV ms).1.length c1, .slice a2 (aroundV ms).2.length c2]) ∧ View w2 a1 (aroundV ms).1 ∧ View w2 a2 (aroundV ms).2 ∧ Below w.heap.size w w2 := fun w2 hb hv => by
    rw [hv]
    exact ⟨none, 0, none, 0, rfl, Or.inl rfl, Or.inl rfl, hb⟩
  have HNO := hidP hnone
  clear hnone
  by_cases h0 : ms.length = 0
  · have HV := hidP (around_none (Or.inl h0))
    have hlb : ((ms.length : Int) == 0) = true := by simp [h0]
    have HB := hidP (And.intro hB t0)
    have e0 := t0.c0
    have e1 := t0.c1
    clear h0 hB hv t0
    go_enter Try.func21, Try.ntmps21
    go_wp2_with fail
    rw [← hW]
    clear hW
    exact bodyPost_ret (v := .agg #[.slice none 0 0, .slice none 0 0]) (by simp [results, Try.results21, go_sem, e0, e1]) rfl (HNO.out W HB.out.1 HV.out)
  · have hlb : ((ms.length : Int) == 0) = false := by simp; intro h; exact h0 (by rw [h]; rfl)
    have HC := hidP (sMarks ao cap ms W (hv.next hB) hsm)
    rcases hm : marksB ms with _ | _
    · rw [hm] at HC
      have HV := hidP (around_none (Or.inr hm))
      have HB := hidP (And.intro hB t0)
      clear hB hv t0 h0
      go_enter Try.func21, Try.ntmps21
      go_wp2_with fail
      rw [← hW]
      clear hW
      refine HC.out.mono ?_
      rintro e w2 ⟨rfl, nd, hw2⟩
      have t2 : Two w2 w.heap.size (.slice none 0 0) (.slice none 0 0) 26 := by rw [hw2]; exact HB.out.2
      have L3 : Below w.heap.size w w2 := by rw [hw2]; exact below_drewN HB.out.1 nd
      have f0 := t2.frozen 0
      have f1 := t2.frozen 1
      have e0 := t2.c0
      have e1 := t2.c1
      have t3 := (t2.set0 (.slice none 0 0)).set1 (.slice none 0 0)
      have g0 := t3.c0
      have g1 := t3.c1
      have HT := hidP (set_below (set_below L3 (Nat.le_refl w.heap.size) (.slice none 0 0) (i := 0)) (Nat.le_refl w.heap.size) (.slice none 0 0) (i := 1))
      clear t2 L3 t3 HC hw2
      go_wp2_with fail
      exact bodyPost_ret (v := .agg #[.slice none 0 0, .slice none 0 0]) (by simp [results, Try.results21, go_sem, g0, g1]) rfl (HNO.out _ HT.out HV.out)
    · rw [hm] at HC
      have HV := hidP (around_some h0 hm)
      have HB := hidP (And.intro hB t0)
      have HM := hidP hm
      obtain ⟨b, off, rfl, hb, hs⟩ := MSeg.seg hv (by omega)
      have h60 := marksB_len hm
      have h4 := okB_len ((mOkAt_iff ms 0).1 (marksB_at hm (i := 0) (by omega))).2.2.1
      obtain ⟨i0, hi0, hz0, hz1, hz2⟩ := info_parts Try.info2
      obtain ⟨_, ae, ce, hc1, hve⟩ := hs.at (i := 0) (by omega)
      obtain ⟨ba, oa, rfl, hba, hsa⟩ := hve.seg (by omega)
      rw [Nat.zero_mul, Nat.add_zero] at hc1
      have HS := hidP hs
      have H0 := hidP h0
      have hne0 : ms ≠ [] := by intro h; subst h; exact h0 rfl
      have hi1 : (0 : Int) < (ms.length : Int) := by omega
      have hi2 : 0 < ms.length := by omega
      have HSA := hidP hsa
      clear hB hv t0 h0 HNO hs hm hve hsa
      go_enter Try.func21, Try.ntmps21
      go_wp2_with fail
      rw [← hW]
      clear hW
      refine HC.out.mono ?_
      rintro e w2 ⟨rfl, nd, hw2⟩
      have t2 : Two w2 w.heap.size (.slice none 0 0) (.slice none 0 0) 26 := by rw [hw2]; exact HB.out.2
      have L3 : Below w.heap.size w w2 := by rw [hw2]; exact below_drewN HB.out.1 nd
      have hc2 := (L3.cell (p := ⟨b, off + 1, none⟩) hb).trans hc1
      have hz := t2.lt
      have HT := hidP t2
      have HL3 := hidP L3
      have hbz := Nat.lt_of_lt_of_le hb L3.size
      have hne0 : ¬ w2.heap.size = b := by omega
      have hne1 : ¬ w2.heap.size + 1 = b := by omega
      have hne2 : ¬ w2.heap.size + 1 + 1 = b := by omega
      have hne3 : ¬ w2.heap.size + 1 + 1 + 1 = b := by omega
      have hne4 : ¬ w2.heap.size + 1 + 1 + 1 + 1 = b := by omega
      have HC2 := hidP hc2
      have HSRC : Hid (∀ X, Below w2.heap.size w2 X → SrcAt X 1 (some ⟨ba, oa, none⟩) (mat ms 0).length ((mat ms 0).map (Value.int .i64))) := fun X hX => seg_src (HSA.out.below hba (chain L3 hX))
      clear t2 L3 HC HB hw2 hc1
      go_upto_region 3 with fail
      go_cut [3] from 15 to 27 (fun d wx => ∃ D g1 c1 g2 c2, d = .pointer (some ⟨D, 0, none⟩) ∧ BoxAt w2.heap.size wx D g1 c1 g2 c2 (mat ms 0).length (mat ms 0) (mat ms 0) ∧ Below w2.heap.size w2 wx)
      case first =>
        go_region_held3 (fun w' => w'.cell? ⟨b, off + 1, none⟩ = some (.slice (some ⟨ba, oa, none⟩) (mat ms 0).length ce))
          (first
            | (refine Eq.trans (Below.cell (p := ⟨b, off + 1, none⟩) (w := w2) (B := w2.heap.size) ?_ hbz) HC2.out; repeat' (first | (with_reducible exact Below.refl _ _) | (with_reducible refine Below.drew ?_) | (with_reducible refine below_alloc ?_ _)))
            | go_keep)
          (first
            | (refine step_append_new _ (by rfl) (.tmp 15) (.tmp 19) 24 (by rfl) 2 i0 _ 1 8 Try.underlying24 hi0 hz0 hz1 hz2 rfl _ (by rfl) (some ⟨ba, oa, none⟩) (mat ms 0).length ce ((mat ms 0).map (Value.int .i64)) (by rfl) (HSRC.out _ (by repeat' (first | (with_reducible exact Below.refl _ _) | (with_reducible refine Below.drew ?_) | (with_reducible refine below_alloc ?_ _)))) (by omega) (by unfold maxLen; omega) (by omega) ?_; intro c1 R1 r1)
            | (refine step_append_new _ (by rfl) (.tmp 21) (.tmp 25) 24 (by rfl) 2 i0 _ 1 8 Try.underlying24 hi0 hz0 hz1 hz2 rfl _ (by rfl) (some ⟨ba, oa, none⟩) (mat ms 0).length ce ((mat ms 0).map (Value.int .i64)) (by rfl) (HSRC.out _ (by repeat' (first | (with_reducible exact Below.refl _ _) | (with_reducible refine Below.drew ?_) | (with_reducible refine below_alloc ?_ _)))) (by omega) (by unfold maxLen; omega) (by omega) ?_; intro c2 R2 r2))
        all_goals
          go_wp2_with fail
          go_meet
          clear HSRC hc2 HC2 HV HM HS HSA hlb
          apply boxAt_mk
          case two =>
            unfold Two
            repeat' (first | (with_reducible refine heap_at_drew ?_) | (with_reducible exact heap_at_new (by simp)) | (with_reducible refine heap_at_past ?_))
          case r1 =>
            refine RowIs.owns r1 ?_ ?_
            · omega
            · repeat' (first | (with_reducible refine heap_at_drew ?_) | (with_reducible exact heap_at_new (by simp)) | (with_reducible refine heap_at_past ?_))
          case r2 =>
            refine RowIs.owns r2 ?_ ?_
            · omega
            · repeat' (first | (with_reducible refine heap_at_drew ?_) | (with_reducible exact heap_at_new (by simp)) | (with_reducible refine heap_at_past ?_))
          case n1 => omega
          case n2 => omega
          case n3 => omega
          case n4 => omega
          case bel => repeat' (first | (with_reducible exact Below.refl _ _) | (with_reducible refine Below.drew ?_) | (with_reducible refine below_alloc ?_ _))
      case rest =>
        obtain ⟨D, g1, c1, g2, c2, rfl, hbx, Lc⟩ := hcut
        have hT := HT.out.below Lc
        clear HSRC HC2 hc2 hne0 hne1 hne2 hne3 hne4 HSA
        have HBX := hidP hbx
        have HLC := hidP Lc
        clear hbx Lc hT
        go_wp2_with fail
        go_loopw [4] (fun i wr => ∃ j : Nat, 1 ≤ j ∧ j ≤ ms.length ∧ i = .int .i64 j ∧ BoxAt w2.heap.size wr D g1 c1 g2 c2 (mat ms 0).length (lowL ms (j - 1)) (highL ms (j - 1)) ∧ Below w2.heap.size w2 wr) (fun i _ => ms.length - (intOf i).toNat)
        case atStart => exact ⟨1, Nat.le_refl _, by omega, rfl, by rw [lowL_zero, highL_zero]; exact HBX.out, HLC.out⟩
        case round =>
          obtain ⟨j, hj1, hjn, rfl, hbx, L⟩ := hrel
          have HBJ := hidP hbx
          have HLJ := hidP L
          clear hbx L
          by_cases hlt : j < ms.length
          · obtain ⟨_, ae, ce', hc1, hve⟩ := HS.out.at hlt
            have a := (mOkAt_iff ms j).1 (marksB_at HM.out hlt)
            obtain ⟨bj, oj, rfl, hbj, hsj⟩ := hve.seg (by have := okB_len a.2.2.1; omega)
            rw [a.2.2.2.1] at hc1
            have HLEN := hidP a.2.2.2.1
            have HSJ := hidP hsj
            have HC1 := hidP hc1
            clear a hve hsj hc1
            go_wp2_with fail
            go_loopw [5] (fun i wq => ∃ k : Nat, k ≤ (mat ms 0).length ∧ i = .int .i64 k ∧ BoxAt w2.heap.size wq D g1 c1 g2 c2 (mat ms 0).length (mixL (fun k => lowTo ms k j) (fun k => lowTo ms k (j - 1)) (mat ms 0).length k) (mixL (fun k => highTo ms k j) (fun k => highTo ms k (j - 1)) (mat ms 0).length k) ∧ Below w2.heap.size w2 wq) (fun i _ => (mat ms 0).length - (intOf i).toNat)
            case atStart => exact ⟨0, Nat.zero_le _, rfl, by rw [mixL_zero, mixL_zero]; exact HBJ.out, HLJ.out⟩
            case round =>
              obtain ⟨k, hk, rfl, hbx, L⟩ := hrel
              obtain ⟨tw, r1, r2, n12, nD1, nD2, nb⟩ := hbx
              have q0 := tw.c0
              have q1 := tw.c1
              by_cases hkn : k < (mat ms 0).length
              · have Lw := chain HL3.out L
                have e1 := (Lw.cell (p := ⟨b, off + j * 2 + 1, none⟩) hb).trans HC1.out
                have e2 := (Lw.cell (p := ⟨bj, oj + k, none⟩) hbj).trans (HSJ.out k (by rw [HLEN.out]; exact hkn))
                have e3 := r1.seg k (by rw [mixL_length]; exact hkn)
                rw [Nat.zero_add, mixL_at _ _ _ _ hkn] at e3
                have f3 := World.ownsRow.frozenAt r1 k
                have hzw := L.size
                have hgb := r1.lt.1
                have hgb2 := r2.lt.1
                have m1 : ¬ g1 = b := by omega
                have m2 : ¬ g1 = bj := by omega
                have m3 : ¬ g1 = D := fun h => nD1 h.symm
                have i1 : (0 : Int) ≤ (k : Int) := by omega
                have i2 : (k : Int) < ((mat ms 0).length : Int) := by omega
                have i3 : (0 : Int) ≤ (j : Int) := by omega
                have i4 : (j : Int) < (ms.length : Int) := by omega
                have HR1 := hidP r1
                have HR2 := hidP r2
                have HTW := hidP tw
                have HLL := hidP L
                clear r1 r2 tw L Lw
                go_wp2_with fail
                refine wp_region_calm (S := fun w' => w'.cell? ⟨D, 0, none⟩ = some (.slice (some ⟨g1, 0, none⟩) (mat ms 0).length c1) ∧ w'.cell? ⟨b, off + j * 2 + 1, none⟩ = some (.slice (some ⟨bj, oj, none⟩) (mat ms 0).length ce') ∧ w'.cell? ⟨bj, oj + k, none⟩ = some (.int .i64 (nth (mat ms j) k)) ∧ w'.cell? ⟨g1, k, none⟩ = some (.int .i64 (lowTo ms k (j - 1)))) (fuel := 2)
                  [0, 1, 2, 3, 4, 5, 6, 7, 8, 9, 10, 11, 12, 13, 14, 15] _ rfl (by kernel_rfl) (by kernel_rfl) (by kernel_rfl) (by kernel_rfl) (by kernel_rfl) (by kernel_rfl) (by kernel_rfl) ⟨q0, e1, e2, e3⟩ (fun hS => ?_)
                iterate 16
                  refine ⟨_, rfl, ?_⟩
                  apply Exists.intro
                  refine ⟨Or.inl ⟨by rfl, fun w' hw' => ?_⟩, ?_⟩
                  · first
                    | (go_simp; done)
                    | (go_simp; with_reducible rfl)
                  simp only [Act.put, List.setIfInBounds_toArray]
                refine calm_one 16 (by kernel_rfl) rfl (fun K hK => ?_)
                go_simp
                refine (sMin _ _ _).mono ?_
                rintro e w' ⟨rfl, hw'⟩
                subst w'
                refine hK.out _ _ hS (fun _ => ?_)
                clear hK K
                refine calm_one 17 (by kernel_rfl) rfl (fun K hK => ?_)
                go_simp
                refine hK.out _ _ hS (fun _ => ?_)
                clear hK K
                refine wpAnyH_done (by kernel_rfl) ?_ _
                simp only [Exit.then]
                go_wp2_with fail
                refine NoPanic.normal ?_
                obtain ⟨W1, hW1⟩ : ∃ W1, W1 = (wr.setCell ⟨g1, k, none⟩ (.int .i64 (min (lowTo ms k (j - 1)) (nth (mat ms j) k)))).drew := ⟨_, rfl⟩
                rw [← hW1]
                have hst := HR1.out.store k (min (lowTo ms k (j - 1)) (nth (mat ms j) k))
                rw [← lowTo_next ms k hj1, mixL_set _ _ _ _ hkn] at hst
                have tw1 : Two W1 D (.slice (some ⟨g1, 0, none⟩) (mat ms 0).length c1) (.slice (some ⟨g2, 0, none⟩) (mat ms 0).length c2) 26 := by rw [hW1]; exact HTW.out.far m3 _
                have r1 : IRow w2.heap.size W1 g1 c1 (mixL (fun k => lowTo ms k j) (fun k => lowTo ms k (j - 1)) (mat ms 0).length (k + 1)) := by rw [hW1, ← lowTo_next ms k hj1]; exact hst
                have r2 : IRow w2.heap.size W1 g2 c2 (mixL (fun k => highTo ms k j) (fun k => highTo ms k (j - 1)) (mat ms 0).length k) := by rw [hW1]; exact IRow.drew (HR2.out.kept (grown_setCell wr g1 k _) (fun e => n12 (Option.some.inj e).symm))
                have L : Below w2.heap.size w2 W1 := by rw [hW1]; exact (set_below HLL.out hgb _).drew
                clear hW1 hst HR1 HR2 HTW HLL q0 q1 e1 e2 e3 f3 hS
                have Lw := chain HL3.out L
                have q0 := tw1.c0
                have q1 := tw1.c1
                have e1 := (Lw.cell (p := ⟨b, off + j * 2 + 1, none⟩) hb).trans HC1.out
                have e2 := (Lw.cell (p := ⟨bj, oj + k, none⟩) hbj).trans (HSJ.out k (by rw [HLEN.out]; exact hkn))
                have e3 := r2.seg k (by rw [mixL_length]; exact hkn)
                rw [Nat.zero_add, mixL_at _ _ _ _ hkn] at e3
                have f3 := World.ownsRow.frozenAt r2 k
                have m4 : ¬ g2 = D := fun h => nD2 h.symm
                have HR1 := hidP r1
                have HR2 := hidP r2
                have HTW := hidP tw1
                have HLL := hidP L
                clear r1 r2 tw1 L Lw
                go_wp2_with fail
                refine wp_region_calm (S := fun w' => w'.cell? ⟨D, 1, none⟩ = some (.slice (some ⟨g2, 0, none⟩) (mat ms 0).length c2) ∧ w'.cell? ⟨b, off + j * 2 + 1, none⟩ = some (.slice (some ⟨bj, oj, none⟩) (mat ms 0).length ce') ∧ w'.cell? ⟨bj, oj + k, none⟩ = some (.int .i64 (nth (mat ms j) k)) ∧ w'.cell? ⟨g2, k, none⟩ = some (.int .i64 (highTo ms k (j - 1)))) (fuel := 2)
                  [0, 1, 2, 3, 4, 5, 6, 7, 8, 9, 10, 11, 12, 13, 14, 15] _ rfl (by kernel_rfl) (by kernel_rfl) (by kernel_rfl) (by kernel_rfl) (by kernel_rfl) (by kernel_rfl) (by kernel_rfl) ⟨q1, e1, e2, e3⟩ (fun hS => ?_)
                iterate 16
                  refine ⟨_, rfl, ?_⟩
                  apply Exists.intro
                  refine ⟨Or.inl ⟨by rfl, fun w' hw' => ?_⟩, ?_⟩
                  · first
                    | (go_simp; done)
                    | (go_simp; with_reducible rfl)
                  simp only [Act.put, List.setIfInBounds_toArray]
                refine calm_one 16 (by kernel_rfl) rfl (fun K hK => ?_)
                go_simp
                refine (sMax _ _ _).mono ?_
                rintro e w' ⟨rfl, hw'⟩
                subst w'
                refine hK.out _ _ hS (fun _ => ?_)
                clear hK K
                refine calm_one 17 (by kernel_rfl) rfl (fun K hK => ?_)
                go_simp
                refine hK.out _ _ hS (fun _ => ?_)
                clear hK K
                refine wpAnyH_done (by kernel_rfl) ?_ _
                simp only [Exit.then]
                go_wp2_with fail
                refine NoPanic.normal ?_
                have hst := HR2.out.store k (maxV (highTo ms k (j - 1)) (nth (mat ms j) k))
                rw [← highTo_next ms k hj1, mixL_set _ _ _ _ hkn] at hst
                have HX : Hid (BoxAt w2.heap.size (W1.setCell ⟨g2, k, none⟩ (.int .i64 (maxV (highTo ms k (j - 1)) (nth (mat ms j) k)))).drew D g1 c1 g2 c2 (mat ms 0).length (mixL (fun k => lowTo ms k j) (fun k => lowTo ms k (j - 1)) (mat ms 0).length (k + 1)) (mixL (fun k => highTo ms k j) (fun k => highTo ms k (j - 1)) (mat ms 0).length (k + 1))) :=
                  ⟨HTW.out.far m4 _, IRow.drew (HR1.out.kept (grown_setCell W1 g2 k _) (fun e => n12 (Option.some.inj e))), by rw [← highTo_next ms k hj1]; exact hst, n12, nD1, nD2, nb⟩
                have HLX : Hid (Below w2.heap.size w2 (W1.setCell ⟨g2, k, none⟩ (.int .i64 (maxV (highTo ms k (j - 1)) (nth (mat ms j) k)))).drew) := (set_below HLL.out hgb2 _).drew
                clear hst HR1 HR2 HTW HLL hS q0 q1 e1 e2 e3 f3
                go_wp2_with fail
                go_roundw
                case rel => exact ⟨k + 1, by omega, by go_num, HX.out, HLX.out⟩
                case measure => simp [intOf]; omega
              · have HX := hidP (show BoxAt w2.heap.size wr D g1 c1 g2 c2 (mat ms 0).length (mixL (fun k => lowTo ms k j) (fun k => lowTo ms k (j - 1)) (mat ms 0).length k) (mixL (fun k => highTo ms k j) (fun k => highTo ms k (j - 1)) (mat ms 0).length k) from ⟨tw, r1, r2, n12, nD1, nD2, nb⟩)
                have HLX := hidP L
                clear tw r1 r2 L
                go_wp2_with fail
                obtain rfl : k = (mat ms 0).length := by omega
                go_roundw
                case rel => exact ⟨j + 1, by omega, by omega, by go_num, by have := HX.out; rw [mixL_all, mixL_all] at this; exact this, HLX.out⟩
                case measure => simp [intOf]; omega
          · obtain rfl : j = ms.length := by omega
            obtain ⟨tw, r1, r2, n12, nD1, nD2, nb⟩ := HBJ.out
            have q0 := tw.c0
            have q1 := tw.c1
            have tr := HT.out.below HLJ.out
            have f0 := tr.frozen 0
            have f1 := tr.frozen 1
            have z0 := tr.c0
            have z1 := tr.c1
            have hl1 := r1.lt
            have hl2 := r2.lt
            have t4 := (tr.set0 (.slice (some ⟨g1, 0, none⟩) (mat ms 0).length c1)).set1 (.slice (some ⟨g2, 0, none⟩) (mat ms 0).length c2)
            have k0 := t4.c0
            have k1 := t4.c1
            have v1 : View ((wr.setCell ⟨w.heap.size, 0, none⟩ (.slice (some ⟨g1, 0, none⟩) (mat ms 0).length c1)).setCell ⟨w.heap.size, 1, none⟩ (.slice (some ⟨g2, 0, none⟩) (mat ms 0).length c2)) (some ⟨g1, 0, none⟩) (lowL ms (ms.length - 1)) :=
              ((r1.kept (grown_setCell _ w.heap.size 0 _) (by simp; omega)).kept (grown_setCell _ w.heap.size 1 _) (by simp; omega)).view
            have v2 : View ((wr.setCell ⟨w.heap.size, 0, none⟩ (.slice (some ⟨g1, 0, none⟩) (mat ms 0).length c1)).setCell ⟨w.heap.size, 1, none⟩ (.slice (some ⟨g2, 0, none⟩) (mat ms 0).length c2)) (some ⟨g2, 0, none⟩) (highL ms (ms.length - 1)) :=
              ((r2.kept (grown_setCell _ w.heap.size 0 _) (by simp; omega)).kept (grown_setCell _ w.heap.size 1 _) (by simp; omega)).view
            have L6 := set_below (set_below (chain HL3.out HLJ.out) (Nat.le_refl w.heap.size) (.slice (some ⟨g1, 0, none⟩) (mat ms 0).length c1) (i := 0)) (Nat.le_refl w.heap.size) (.slice (some ⟨g2, 0, none⟩) (mat ms 0).length c2) (i := 1)
            have HE := hidP (And.intro v1 (And.intro v2 L6))
            clear tw r1 r2 tr t4 v1 v2 L6 HBJ HLJ HT HL3 HBX HLC
            go_wp2_with fail
            refine bodyPost_ret (v := .agg #[.slice (some ⟨g1, 0, none⟩) (mat ms 0).length c1, .slice (some ⟨g2, 0, none⟩) (mat ms 0).length c2]) (by simp [results, Try.results21, go_sem, k0, k1]) rfl ?_
            rw [HV.out]
            have y1 : (lowL ms (ms.length - 1)).length = (mat ms 0).length := tabL_length _ _
            have y2 : (highL ms (ms.length - 1)).length = (mat ms 0).length := tabL_length _ _
            simp only [y1, y2]
            exact ⟨some ⟨g1, 0, none⟩, c1, some ⟨g2, 0, none⟩, c2, rfl, HE.out.1, HE.out.2.1, HE.out.2.2⟩

end Go.Proofs.Ytodielfilhodeaa
