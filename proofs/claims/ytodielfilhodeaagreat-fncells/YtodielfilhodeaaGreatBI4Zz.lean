/-
  The program's own Around.
-/
import Derived.Test.YtodielfilhodeaaGreatBI1Zz
import Derived.Test.YtodielfilhodeaaGreatMCopyZz
import Derived.Test.YtodielfilhodeaaGreatBMarkZz
import Derived.Test.YtodielfilhodeaaGreatMCellsZz
namespace Go.Proofs.YtodielfilhodeaaGreat
open Go Go.RowKit

theorem low_eq (ms : List Mk) (k j : Nat) : loP (mat ms) k j = lowTo ms k j := by
  induction j with
  | zero => rfl
  | succ j ih => simp only [loP, lowTo, ih]; omega
theorem high_eq (ms : List Mk) (k j : Nat) : hiP (mat ms) k j = highTo ms k j := by
  induction j with
  | zero => rfl
  | succ j ih => simp only [hiP, highTo, maxV, ih]; omega
theorem lowL_eq (ms : List Mk) (j : Nat) : tabL (fun k => loP (mat ms) k j) (mat ms 0).length = lowL ms j := List.map_congr_left fun k _ => low_eq ms k j
theorem highL_eq (ms : List Mk) (j : Nat) : tabL (fun k => hiP (mat ms) k j) (mat ms 0).length = highL ms j := List.map_congr_left fun k _ => high_eq ms k j
theorem around_none {ms : List Mk} (h : ms.length = 0 ∨ marksB ms = false) : aroundV ms = ([], []) := by unfold aroundV; rw [if_pos h]
theorem around_some {ms : List Mk} (h : ms.length ≠ 0) (hm : marksB ms = true) : aroundV ms = (lowL ms (ms.length - 1), highL ms (ms.length - 1)) := by
  unfold aroundV; rw [if_neg]; intro h2; rcases h2 with h2 | h2
  · exact h h2
  · rw [hm] at h2; cases h2
theorem around_short (ms : List Mk) : (aroundV ms).1.length ≤ 4 ∧ (aroundV ms).2.length ≤ 4 := by
  by_cases h0 : ms.length = 0
  · rw [around_none (Or.inl h0)]; simp
  · rcases hm : marksB ms with _ | _
    · rw [around_none (Or.inr hm)]; simp
    · rw [around_some h0 hm]
      have := okB_len ((mOkAt_iff ms 0).1 (marksB_at hm (i := 0) (by omega))).2.2.1
      unfold lowL highL
      rw [tabL_length, tabL_length]
      exact ⟨this.2, this.2⟩

/-- A row of the places of marks, the first k of n filled in. -/
def QPart (w0 w : World) (A k n : Nat) (ms : List Mk) : Prop := A < w.heap.size ∧ (∀ j, j < k → ∃ ao cap, w.cell? ⟨A, j, none⟩ = some (.slice ao (mat ms j).length cap) ∧ View w0 ao (mat ms j)) ∧ (∀ j, k ≤ j → j < n → ∃ v, w.cell? ⟨A, j, none⟩ = some v) ∧ ∀ j, w.frozen? ⟨A, j, none⟩ = false
theorem QPart.start (w0 w : World) (z : Value) (t : TypeId) (n : Nat) (ms : List Mk) : QPart w0 (w.alloc (.cells (madeCells #[z] n) t)) w.heap.size 0 n ms :=
  ⟨by simp, fun j hj => by omega, fun j _ h2 => by
    rw [World.cell?_alloc_at _ _ _ _ rfl]
    exact ⟨_, Array.getElem?_eq_getElem (by rw [size_madeCells]; exact h2)⟩, fun j => World.frozen?_alloc_at _ _ _ _ rfl⟩
theorem QPart.below {w0 w w' : World} {A k n : Nat} {ms : List Mk} (h : QPart w0 w A k n ms) (hw : Below w.heap.size w w') : QPart w0 w' A k n ms := by
  obtain ⟨h1, h2, h3, h4⟩ := h
  refine ⟨Nat.lt_of_lt_of_le h1 hw.size, fun j hj => ?_, fun j hj hn => ?_, fun j => (hw.frozen (p := ⟨A, j, none⟩) h1).trans (h4 j)⟩
  · obtain ⟨ao, cap, hc, hv⟩ := h2 j hj
    exact ⟨ao, cap, (hw.cell (p := ⟨A, j, none⟩) h1).trans hc, hv⟩
  · obtain ⟨v, hc⟩ := h3 j hj hn
    exact ⟨v, (hw.cell (p := ⟨A, j, none⟩) h1).trans hc⟩
theorem QPart.step {w0 w : World} {A k n : Nat} {ms : List Mk} (h : QPart w0 w A k n ms) (hk : k < n) {ao : Option Addr} {cap : Nat} (hv : View w0 ao (mat ms k)) :
    QPart w0 (w.setCell ⟨A, k, none⟩ (.slice ao (mat ms k).length cap)) A (k + 1) n ms := by
  obtain ⟨h1, h2, h3, h4⟩ := h
  obtain ⟨v0, hc0⟩ := h3 k (Nat.le_refl _) hk
  refine ⟨by rw [setCell_size]; exact h1, fun j hj => ?_, fun j hj hn => ?_, fun j => by rw [World.frozen?_setCell]; exact h4 j⟩
  · by_cases e : j = k
    · subst e; exact ⟨ao, cap, World.cell?_setCell_same _ _ _ hc0, hv⟩
    · obtain ⟨ao', cap', hc, hv'⟩ := h2 j (by omega)
      exact ⟨ao', cap', by rw [cell_setOther _ _ _ _ _ (by omega)]; exact hc, hv'⟩
  · obtain ⟨v, hc⟩ := h3 j (by omega) hn
    exact ⟨v, by rw [cell_setOther _ _ _ _ _ (by omega)]; exact hc⟩
theorem QPart.row {w0 w : World} {A : Nat} {ms : List Mk} (h : QPart w0 w A ms.length ms.length ms) (hb : Below w0.heap.size w0 w) (hm : marksB ms = true) : PRow w A 0 ms.length (mat ms 0).length (mat ms) := fun j hj => by
  obtain ⟨ao, cap, hc, hv⟩ := h.2.1 j hj
  have a := (mOkAt_iff ms j).1 (marksB_at hm hj)
  have h4 := okB_len a.2.2.1
  obtain ⟨b', o', rfl, hb', hs⟩ := hv.seg (by omega)
  rw [a.2.2.2.1] at hc
  exact ⟨a.2.2.2.1, b', o', cap, by rw [Nat.zero_add]; exact hc, Nat.lt_of_lt_of_le hb' hb.size, hs.below hb' hb⟩

theorem Tryz.info80 : (Tryz.prog.info? 80).map (fun i => (i.zero, i.size, i.bytes)) = some (some (.slice none 0 0), 1, 24) := by kernel_rfl

set_option maxRecDepth 100000 in
set_option maxHeartbeats 2000000 in
theorem iAround (ao : Option Addr) (cap : Nat) (ms : List Mk) (w : World) (hv : MView w ao ms) (hsm : MSmall ms) :
    Calls Tryz.prog 127 #[.slice ao ms.length cap] w fun e w' => ∃ a1 c1 a2 c2, e = .returned (.agg #[.slice a1 (aroundV ms).1.length c1, .slice a2 (aroundV ms).2.length c2]) ∧ IOut w.heap.size w' (.slice a1 (aroundV ms).1.length c1) (aroundV ms).1 ∧ IOut w.heap.size w' (.slice a2 (aroundV ms).2.length c2) (aroundV ms).2 ∧ Apart (.slice a1 (aroundV ms).1.length c1) (.slice a2 (aroundV ms).2.length c2) ∧ Below w.heap.size w w' := by
  have hn := hsm.1
  obtain ⟨W, hW⟩ : ∃ W, W = w.alloc (.cells #[.slice none 0 0, .slice none 0 0] 155) := ⟨_, rfl⟩
  have hB : Below w.heap.size w W := by rw [hW]; exact alloc_below w _
  have t0 : Two W w.heap.size (.slice none 0 0) (.slice none 0 0) 155 := by rw [hW]; exact Two.new w _ _ _
  have hnone : ∀ (w2 : World), Two w2 w.heap.size (.slice none 0 0) (.slice none 0 0) 155 → Below w.heap.size w w2 → aroundV ms = ([], []) → ∃ a1 c1 a2 c2, Ending.returned (.agg #[.slice none 0 0, .slice none 0 0]) = Ending.returned (.agg #[.slice a1 (aroundV ms).1.length c1, .slice a2 (aroundV ms).2.length c2]) ∧ IOut w.heap.size w2 (.slice a1 (aroundV ms).1.length c1) (aroundV ms).1 ∧ IOut w.heap.size w2 (.slice a2 (aroundV ms).2.length c2) (aroundV ms).2 ∧ Apart (.slice a1 (aroundV ms).1.length c1) (.slice a2 (aroundV ms).2.length c2) ∧ Below w.heap.size w w2 := fun w2 _ hb hv => by
    rw [hv]
    exact ⟨none, 0, none, 0, rfl, Or.inl ⟨rfl, rfl⟩, Or.inl ⟨rfl, rfl⟩, fun a n c b m d h _ => (by cases h), hb⟩
  have HNO := hidP hnone
  clear hnone
  by_cases h0 : ms.length = 0
  · have HV := hidP (around_none (Or.inl h0))
    have hlb : ((ms.length : Int) == 0) = true := by simp [h0]
    have HB := hidP (And.intro hB t0)
    have e0 := t0.c0
    have e1 := t0.c1
    clear h0 hB hv t0
    go_enter Tryz.func127, Tryz.ntmps127
    go_wp2_with fail
    rw [← hW]
    clear hW
    exact bodyPost_ret (v := .agg #[.slice none 0 0, .slice none 0 0]) (by simp [results, Tryz.results127, go_sem, e0, e1]) rfl (HNO.out W HB.out.2 HB.out.1 HV.out)
  · have hlb : ((ms.length : Int) == 0) = false := by simp; intro h; exact h0 (by rw [h]; rfl)
    have HC := hidP (iMarks ao cap ms W (hv.next hB) hsm)
    rcases hm : marksB ms with _ | _
    · rw [hm] at HC
      have HV := hidP (around_none (Or.inr hm))
      have HB := hidP (And.intro hB t0)
      clear hB hv t0 h0
      go_enter Tryz.func127, Tryz.ntmps127
      go_wp2_with fail
      rw [← hW]
      clear hW
      refine HC.out.mono ?_
      rintro e w2 ⟨rfl, L2⟩
      have t2 := HB.out.2.below L2
      have L3 := chain HB.out.1 L2
      have f0 := t2.frozen 0
      have f1 := t2.frozen 1
      have e0 := t2.c0
      have e1 := t2.c1
      have t3 := (t2.set0 (.slice none 0 0)).set1 (.slice none 0 0)
      have g0 := t3.c0
      have g1 := t3.c1
      have HT := hidP (And.intro t3 (set_below (set_below L3 (Nat.le_refl w.heap.size) (.slice none 0 0) (i := 0)) (Nat.le_refl w.heap.size) (.slice none 0 0) (i := 1)))
      clear t2 L2 L3 t3 HC
      go_wp2_with fail
      exact bodyPost_ret (v := .agg #[.slice none 0 0, .slice none 0 0]) (by simp [results, Tryz.results127, go_sem, g0, g1]) rfl (HNO.out _ HT.out.1 HT.out.2 HV.out)
    · rw [hm] at HC
      have HV := hidP (around_some h0 hm)
      have HB := hidP (And.intro hB t0)
      have HM := hidP hm
      obtain ⟨b, off, rfl, hb, hs⟩ := MSeg.seg hv (by omega)
      have h60 := marksB_len hm
      have h4 := okB_len ((mOkAt_iff ms 0).1 (marksB_at hm (i := 0) (by omega))).2.2.1
      have hmk := run_make_row' (P := Tryz.prog) 177 80 (.slice none 0 0) 24 Tryz.underlying177 Tryz.info80 rfl .i64 .i64 ms.length (by omega) (by omega)
      have HS := hidP hs
      have H0 := hidP h0
      clear hB hv t0 h0 HNO hs hm
      go_enter Tryz.func127, Tryz.ntmps127
      go_wp2_with fail
      rw [← hW]
      clear hW
      refine HC.out.mono ?_
      rintro e w2 ⟨rfl, L2⟩
      have t2 := HB.out.2.below L2
      have L3 := chain HB.out.1 L2
      have hz := t2.lt
      have HT := hidP t2
      have HL3 := hidP L3
      clear t2 L2 L3 HC HB
      go_wp2_with fail
      clear hmk
      go_loopw [20] (fun i wr => ∃ k : Nat, k ≤ ms.length ∧ i = .int .i64 k ∧ QPart w wr w2.heap.size k ms.length ms ∧ Below w2.heap.size w2 wr) (fun i _ => ms.length - (intOf i).toNat)
      case atStart => exact ⟨0, Nat.zero_le _, rfl, QPart.start w w2 _ _ _ _, alloc_below w2 _⟩
      case round =>
        obtain ⟨k, hk, rfl, hq, Lq⟩ := hrel
        by_cases hlt : k < ms.length
        · obtain ⟨hc0, ae, ce, hc1, hve⟩ := HS.out.at hlt
          have Lw := chain HL3.out Lq
          replace hc0 := (Lw.cell (p := ⟨b, off + k * 2, none⟩) hb).trans hc0
          replace hc1 := (Lw.cell (p := ⟨b, off + k * 2 + 1, none⟩) hb).trans hc1
          obtain ⟨v0, e0⟩ := hq.2.2.1 k (Nat.le_refl _) hlt
          have f0 := hq.2.2.2 k
          have hwz := hq.1
          have hst := hq.step hlt (cap := ce) hve
          have hA := alloc_below (wr.setCell ⟨w2.heap.size, k, none⟩ (.slice ae (mat ms k).length ce)) (.cells #[.int .i64 (mid ms k), .slice ae (mat ms k).length ce] 40)
          have HQ := hidP (And.intro (hst.below hA) (chain (set_below Lq (Nat.le_refl w2.heap.size) (.slice ae (mat ms k).length ce) (i := k)) hA))
          clear hq hst Lq hA hve Lw
          go_wp2_with fail
          go_roundw
          case rel => exact ⟨k + 1, by omega, by go_num, HQ.out.1, HQ.out.2⟩
          case measure => simp [intOf]; omega
        · obtain rfl : k = ms.length := by omega
          have hr := hq.row (chain HL3.out Lq) HM.out
          have hqz := hq.1
          have HR := hidP hr
          have HL := hidP (pLowest w2.heap.size 0 ms.length ms.length (mat ms 0).length (mat ms) wr hr hqz (by have := H0.out; omega) (by omega) (Nat.le_refl _) h4.2)
          have HQ := hidP Lq
          clear hr hq Lq
          go_wp2_with fail
          refine HL.out.mono ?_
          rintro e w3 ⟨g1, d1, rfl, r1, L4⟩
          have HH := hidP (pHighest w2.heap.size 0 ms.length ms.length (mat ms 0).length (mat ms) w3 (HR.out.below hqz L4) (Nat.lt_of_lt_of_le hqz L4.size) (by have := H0.out; omega) (by omega) (Nat.le_refl _) h4.2)
          have H1 := hidP (And.intro r1 L4)
          clear r1 L4 HL HR
          go_wp2_with fail
          refine HH.out.mono ?_
          rintro e w4 ⟨g2, d2, rfl, r2, L5⟩
          have t3 := HT.out.below (chain (chain HQ.out H1.out.2) L5)
          have f0 := t3.frozen 0
          have f1 := t3.frozen 1
          have e0 := t3.c0
          have e1 := t3.c1
          have t4 := (t3.set0 (.slice (some ⟨g1, 0, none⟩) (mat ms 0).length d1)).set1 (.slice (some ⟨g2, 0, none⟩) (mat ms 0).length d2)
          have k0 := t4.c0
          have k1 := t4.c1
          have r1 := H1.out.1.below L5
          rw [lowL_eq] at r1
          rw [highL_eq] at r2
          have l1 := r1.lt
          have l2 := r2.lt
          have l3 := H1.out.1.lt
          have Lz := HQ.out.size
          have Lz4 := H1.out.2.size
          have q1 : IRow w.heap.size ((w4.setCell ⟨w.heap.size, 0, none⟩ (.slice (some ⟨g1, 0, none⟩) (mat ms 0).length d1)).setCell ⟨w.heap.size, 1, none⟩ (.slice (some ⟨g2, 0, none⟩) (mat ms 0).length d2)) g1 d1 (lowL ms (ms.length - 1)) :=
            ((r1.kept (grown_setCell _ w.heap.size 0 _) (by simp; omega)).kept (grown_setCell _ w.heap.size 1 _) (by simp; omega)).mono (by omega)
          have q2 : IRow w.heap.size ((w4.setCell ⟨w.heap.size, 0, none⟩ (.slice (some ⟨g1, 0, none⟩) (mat ms 0).length d1)).setCell ⟨w.heap.size, 1, none⟩ (.slice (some ⟨g2, 0, none⟩) (mat ms 0).length d2)) g2 d2 (highL ms (ms.length - 1)) :=
            ((r2.kept (grown_setCell _ w.heap.size 0 _) (by simp; omega)).kept (grown_setCell _ w.heap.size 1 _) (by simp; omega)).mono (by omega)
          have L6 := set_below (set_below (chain HL3.out (chain (chain HQ.out H1.out.2) L5)) (Nat.le_refl w.heap.size) (.slice (some ⟨g1, 0, none⟩) (mat ms 0).length d1) (i := 0)) (Nat.le_refl w.heap.size) (.slice (some ⟨g2, 0, none⟩) (mat ms 0).length d2) (i := 1)
          have HE := hidP (And.intro q1 (And.intro q2 L6))
          have hgg : g1 ≠ g2 := by omega
          clear t3 t4 r1 r2 q1 q2 L6 L5 HH H1 HQ HT HL3
          go_wp2_with fail
          refine bodyPost_ret (v := .agg #[.slice (some ⟨g1, 0, none⟩) (mat ms 0).length d1, .slice (some ⟨g2, 0, none⟩) (mat ms 0).length d2]) (by simp [results, Tryz.results127, go_sem, k0, k1]) rfl ?_
          rw [HV.out]
          have z1 : (lowL ms (ms.length - 1)).length = (mat ms 0).length := tabL_length _ _
          have z2 : (highL ms (ms.length - 1)).length = (mat ms 0).length := tabL_length _ _
          simp only [z1, z2]
          obtain ⟨q1, q2, L6⟩ := HE.out
          refine ⟨some ⟨g1, 0, none⟩, d1, some ⟨g2, 0, none⟩, d2, rfl, Or.inr ⟨g1, d1, by rw [z1], q1⟩, Or.inr ⟨g2, d2, by rw [z2], q2⟩, ?_, L6⟩
          intro a n c b m d h1 h2
          cases h1; cases h2
          exact hgg

end Go.Proofs.YtodielfilhodeaaGreat
