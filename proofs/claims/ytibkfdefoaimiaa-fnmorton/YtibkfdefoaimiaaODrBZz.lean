/-
  The given draw of two points for Below.
-/
import Derived.Test.YtibkfdefoaimiaaODrZz
import Derived.Test.YtibkfdefoaimiaaLast
import Derived.Test.YtibkfdefoaimiaaMRowZz
namespace Go.Proofs.Ytibkfdefoaimiaa
open Go Go.RowKit

theorem Row.mono8 {base base' : Nat} {w : World} {g c : Nat} {xs : List Int} (h : Row base w g c xs) (hb : base' ≤ base) : Row base' w g c xs :=
  ⟨h.1, h.2.imp id fun ⟨g, cap, cur, h1, h2, h3⟩ => ⟨g, cap, cur, h1, Nat.le_trans hb h2, h3⟩⟩

set_option maxRecDepth 100000 in
set_option maxHeartbeats 4000000 in
theorem cBelowD (ao : Option Addr) (n cap : Nat) (w : World) (hv : CodeV w ao n) (hn : n ≤ 4096) :
    Calls Try.prog 15 #[.slice ao n cap] w fun e w' => (∃ g c xs g' c' ys, e = .returned (.tuple #[.slice (some ⟨g, 0, none⟩) xs.length c, .slice (some ⟨g', 0, none⟩) ys.length c']) ∧ xs.length ≤ 5 ∧ ys.length ≤ 5 ∧ View w' (some ⟨g, 0, none⟩) xs ∧ View w' (some ⟨g', 0, none⟩) ys) ∧ Below w.heap.size w w' := by
  go_enter Try.func15, Try.ntmps15
  go_wp2_with fail
  refine (cNew ao n cap _ hv hn).mono ?_
  rintro e w1 ⟨rfl, c1, L1⟩
  have hv1 := hv.below (Nat.le_refl _) L1
  go_wp2_with fail
  refine (cBelow _ ao n cap 3 _ c1 hv1 hn (by omega) (by omega)).mono ?_
  rintro e w2 ⟨⟨y, hy0, hy1, rfl⟩, c2, g2⟩
  have L2 : Below w.heap.size w w2 := L1.grown g2 L1.size (by intro k hk; cases hk; exact Nat.le_refl _)
  have hv2 := hv1.grown c1 g2
  clear hv1 c1 g2 L1
  obtain ⟨m, hm⟩ : ∃ m : Nat, 1 + y = (m : Int) := ⟨(1 + y).toNat, by omega⟩
  have hm3 : m ≤ 3 := by omega
  have HM := hidP hm
  clear hm
  have HD : Hid (∀ (W : World), Cur W w.heap.size ao n cap → CodeV W ao n → Calls Try.prog 37 #[.pointer (some ⟨w.heap.size, 0, none⟩), .int .i64 (1 + y)] W fun e w' => (∃ g c xs, e = .returned (.slice (some ⟨g, 0, none⟩) xs.length c) ∧ xs.length = m ∧ Row W.heap.size w' g c xs) ∧ Cur w' w.heap.size ao n cap ∧ W.grownBy w' (some w.heap.size)) := fun W hc hv => by
    have := c8Draw w.heap.size ao n cap m W hc hv hn (by omega)
    rwa [← HM.out] at this
  go_wp2_with fail
  refine (HD.out _ c2 hv2).mono ?_
  rintro e w3 ⟨⟨g, c, xs, rfl, hl, hrow⟩, c3, g3⟩
  have L3 : Below w.heap.size w w3 := L2.grown g3 L2.size (by intro k hk; cases hk; exact Nat.le_refl _)
  have hv3 := hv2.grown c2 g3
  have hq2 := c2.lt
  have hgl := hrow.lt2
  have HXL := hidP hl
  clear hv2 c2 g3 L2 hl
  go_wp2_with fail
  refine (HD.out _ c3 hv3).mono ?_
  rintro e w4 ⟨⟨g', c', ys, rfl, hl', hrow'⟩, c4, g4⟩
  have L4 : Below w.heap.size w w4 := L3.grown g4 L3.size (by intro k hk; cases hk; exact Nat.le_refl _)
  have hv4 := hv3.grown c3 g4
  have hgl' := hrow'.lt2
  have hrow4 : Row w2.heap.size w4 g c xs := World.ownsRow.kept hrow g4 (Or.inr (by simp [Value.ownBlock]; omega))
  have HYL := hidP hl'
  have hx5 : xs.length ≤ 5 := by have := HXL.out; omega
  have hy5 : ys.length ≤ 5 := by have := HYL.out; omega
  have hne : g ≠ g' := by omega
  clear hv3 c3 g4 L3 hl' hrow HD
  go_wp2_with fail
  go_loopw [8] (fun i wr => ∃ (k : Nat) (zs : List Int), k ≤ ys.length ∧ i = .int .i64 k ∧ zs.length = ys.length ∧ Row w2.heap.size wr g c xs ∧ Row w2.heap.size wr g' c' zs ∧ Cur wr w.heap.size ao n cap ∧ CodeV wr ao n ∧ Below w.heap.size w wr) (fun i _ => ys.length - (intOf i).toNat)
  case atStart => exact ⟨0, ys, Nat.zero_le _, rfl, rfl, hrow4, Row.mono8 hrow' (by omega), c4, hv4, L4⟩
  case round =>
    obtain ⟨k, zs, hk, rfl, hzl, r1, r2, cc, vv, L⟩ := hrel
    clear hrow4 hrow' c4 hv4 L4
    have HZ := hidP hzl
    clear hzl
    by_cases hlt : k < ys.length
    · go_wp2_with fail
      refine (cOnce _ ao n cap 2 _ cc vv hn (by omega) (by omega)).mono ?_
      rintro e w5 ⟨⟨t, rfl⟩, c5, g5⟩
      have L5 : Below w.heap.size w w5 := L.grown g5 L.size (by intro k hk; cases hk; exact Nat.le_refl _)
      have v5 := vv.grown cc g5
      have r15 : Row w2.heap.size w5 g c xs := World.ownsRow.kept r1 g5 (Or.inr (by simp [Value.ownBlock]; omega))
      have r25 : Row w2.heap.size w5 g' c' zs := World.ownsRow.kept r2 g5 (Or.inr (by simp [Value.ownBlock]; omega))
      clear r1 r2 cc vv g5 L
      cases t with
      | false =>
        go_wp2_with fail
        go_ret2
        exact ⟨⟨g, c, xs, g', c', zs, by rw [HZ.out]; rfl, hx5, by rw [HZ.out]; exact hy5, r15.view, r25.view⟩, L5⟩
      | true =>
        have hkx : k < xs.length := by have := HXL.out; have := HYL.out; omega
        have hkz : k < zs.length := by have := HZ.out; omega
        have e1 := r15.seg k hkx
        have e2 := r25.seg k hkz
        rw [Nat.zero_add] at e1 e2
        generalize nth xs k = va at e1
        generalize nth zs k = vb at e2
        have HR2 := hidP r25
        have HR1 := hidP r15
        have HL5 := hidP L5
        have HC5 := hidP c5
        have HV5 := hidP v5
        have hk0 : (0 : Int) ≤ (k : Int) := Int.natCast_nonneg _
        have hkx' : (k : Int) < (xs.length : Int) := by omega
        have hky' : (k : Int) < (ys.length : Int) := by omega
        have hfz := World.ownsRow.frozenAt r25 k
        clear r25 r15 L5 c5 v5
        go_wp2_with fail
        refine wp_region_calm (S := fun V' => V'.cell? ⟨g, k, none⟩ = some (.int .i64 va) ∧ V'.cell? ⟨g', k, none⟩ = some (.int .i64 vb)) (fuel := 3)
          [0, 1, 2, 3, 4, 5, 6, 7, 8, 9] _ rfl (by kernel_rfl) (by kernel_rfl) (by kernel_rfl) (by kernel_rfl) (by kernel_rfl) (by kernel_rfl) (by kernel_rfl) ⟨e1, e2⟩ (fun hS => ?_)
        simp only [List.pop_toArray, List.dropLast]
        iterate 10
          refine ⟨_, rfl, ?_⟩
          apply Exists.intro
          refine ⟨Or.inl ⟨by rfl, fun w' hw' => ?_⟩, ?_⟩
          · first
            | (go_simp; done)
            | (go_simp; with_reducible rfl)
          simp only [Act.put, List.getElem_toArray, List.getElem_cons_succ, List.getElem_cons_zero, List.setIfInBounds_toArray, List.set_cons_zero, List.set_cons_succ]
        refine calm_one 10 (by kernel_rfl) rfl (fun K hK => ?_)
        go_simp
        refine (oMax va vb _).mono ?_
        rintro e w' ⟨rfl, hw'⟩
        subst w'
        refine hK.out _ _ hS (fun _ => ?_)
        clear hK K
        generalize max va vb = vm
        refine calm_one 11 (by kernel_rfl) rfl (fun K hK => ?_)
        go_simp
        refine (oMin 1023 vm _).mono ?_
        rintro e w' ⟨rfl, hw'⟩
        subst w'
        refine hK.out _ _ hS (fun _ => ?_)
        clear hK K
        generalize min 1023 vm = vn
        refine calm_one 12 (by kernel_rfl) rfl (fun K hK => ?_)
        go_simp
        refine hK.out _ _ hS (fun _ => ?_)
        clear hK K
        refine wpAnyH_done (by kernel_rfl) ?_ _
        simp only [Exit.then]
        go_wp2_with fail
        refine NoPanic.normal ?_
        have HST := hidP (World.ownsRow.stored HR2.out k (.int .i64 vn))
        clear e1 e2 hfz hS
        go_wp2_with fail
        go_roundw
        case rel =>
          have e1 : (zs.set k vn).length = zs.length := by simp
          have hg := HST.out.2
          refine ⟨k + 1, zs.set k vn, by omega, by go_num, by rw [e1, HZ.out], ?_, ?_, ?_, ?_, ?_⟩
          · exact World.ownsRow.drew (World.ownsRow.kept HR1.out hg (Or.inr (by simp [Value.ownBlock]; omega)))
          · unfold Row; rw [e1, List.map_set]; exact World.ownsRow.drew HST.out.1
          · exact (HC5.out.grown hg (by simp; omega)).drew
          · exact hv.below (Nat.le_refl _) (HL5.out.grown hg HL5.out.size (by intro q hq; cases hq; have := HL5.out.size; omega)).drew
          · exact (HL5.out.grown hg HL5.out.size (by intro q hq; cases hq; have := HL5.out.size; omega)).drew
        case measure => simp [intOf]; omega
    · go_wp2_with fail
      go_ret2
      exact ⟨⟨g, c, xs, g', c', zs, by rw [HZ.out]; rfl, hx5, by rw [HZ.out]; exact hy5, r1.view, r2.view⟩, L⟩
end Go.Proofs.Ytibkfdefoaimiaa
