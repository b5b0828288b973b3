/-
  The laws' draws of chapter 3: marks, a place and a count; hits.
  The laws' draws of hits.
-/
import Derived.Test.YtgfcdfiekancnaaMAnyZz
import Derived.Test.YtgfcdfiekancnaaWithZz
namespace Go.Proofs.Ytgfcdfiekancnaa
open Go Go.RowKit

theorem below_grown {w w' : World} (r : Option Nat) (h : Below w.heap.size w w') : w.grownBy w' r := ⟨h.os, h.tape, h.output, h.size, fun i hi _ => h.block i hi⟩
def widthV (ms : List Mk) : Nat := if ms.length = 0 then 2 else (mat ms 0).length

set_option maxHeartbeats 400000 in
theorem sWidth (ao : Option Addr) (cap : Nat) (ms : List Mk) (w : World) (hv : MView w ao ms) (hat : ∀ i, (mat ms i).length ≤ 1048576) :
    Calls Try.prog 62 #[.slice ao ms.length cap] w fun e w' => e = .returned (.int .i64 (widthV ms)) ∧ w' = w := by
  by_cases h0 : ms.length = 0
  · have HV : Hid (widthV ms = 2) := by show widthV ms = 2; unfold widthV; rw [if_pos h0]
    have hb0 : ((ms.length : Int) == 0) = true := by simp; simpa using h0
    clear h0
    go_enter Try.func62, Try.ntmps62
    go_wp2
    go_ret
    exact ⟨ret_int (by rw [HV.out]; rfl), rfl⟩
  · have HV : Hid (widthV ms = (mat ms 0).length) := by show widthV ms = _; unfold widthV; rw [if_neg h0]
    have hb0 : ((ms.length : Int) == 0) = false := by simp; simpa using h0
    have hne : ms ≠ [] := by intro h; subst h; simp at h0
    obtain ⟨b, off, rfl, hb, hs⟩ := MSeg.seg hv (by omega)
    obtain ⟨-, ae, ce, hc1, -⟩ := hs.at (i := 0) (by omega)
    rw [Nat.zero_mul, Nat.add_zero] at hc1
    have hpos : (0 : Int) < (ms.length : Int) := by omega
    have hpos2 : 0 < ms.length := by omega
    have hl0 := hat 0
    clear h0
    go_enter Try.func62, Try.ntmps62
    go_wp2
    go_ret
    exact ⟨ret_int (by rw [HV.out]), rfl⟩

theorem count_at (y : Nat) (h : y < 4) : ∃ v, (#[.int .i64 0, .int .i64 (-1), .int .i64 60, .int .i64 61] : Array Value)[y]? = some (.int .i64 v) := by
  match y, h with
  | 0, _ => exact ⟨_, rfl⟩
  | 1, _ => exact ⟨_, rfl⟩
  | 2, _ => exact ⟨_, rfl⟩
  | 3, _ => exact ⟨_, rfl⟩

set_option maxRecDepth 100000 in
set_option maxHeartbeats 1000000 in
theorem cCount (q : Nat) (ao : Option Addr) (n cap : Nat) (w : World) (hc : Cur w q ao n cap) (hv : CodeV w ao n) (hn : n ≤ 4096) :
    Calls Try.prog 36 #[.pointer (some ⟨q, 0, none⟩)] w fun e w' => (∃ x : Int, e = .returned (.int .i64 x)) ∧ Cur w' q ao n cap ∧ w.grownBy w' (some q) := by
  have hq := hc.lt
  go_enter Try.func36, Try.ntmps36
  go_wp2_with fail
  refine (cOnce q ao n cap 12 _ hc hv hn (by omega) (by omega)).mono ?_
  rintro e w1 ⟨⟨x, rfl⟩, c1, g1⟩
  have v1 := hv.grown hc g1
  have hz1 := g1.size
  cases x with
  | false =>
    go_wp2_with fail
    refine (cBelow q ao n cap 5 _ c1 v1 hn (by omega) (by omega)).mono ?_
    rintro e w2 ⟨⟨y, y0, y1, rfl⟩, c2, g2⟩
    go_wp2_with fail
    go_ret
    exact ⟨⟨_, rfl⟩, c2, grown_trans g1 g2⟩
  | true =>
    have ga := World.grownBy_alloc w1 (.cells #[.int .i64 0, .int .i64 (-1), .int .i64 60, .int .i64 61] 2) (some q)
    have HV2 := hidP (v1.grown c1 ga)
    have HG := hidP (grown_trans g1 ga)
    clear ga
    go_wp2_with fail
    refine (cBelow q ao n cap 4 _ (c1.alloc _) HV2.out hn (by omega) (by omega)).mono ?_
    rintro e w2 ⟨⟨y, y0, y1, rfl⟩, c2, g2⟩
    obtain ⟨yn, rfl⟩ := Int.eq_ofNat_of_zero_le y0
    obtain ⟨v, hv3⟩ := count_at yn (by omega)
    have ht : w2.cell? ⟨w1.heap.size, yn, none⟩ = some (.int .i64 v) := g2.cell (by rw [World.cell?_alloc_at _ _ _ _ rfl]; exact hv3) (by simp; omega)
    have hy2 : (yn : Int) < 4 := by omega
    have HG2 := hidP (grown_trans HG.out g2)
    clear g1 g2
    go_wp2_with fail
    go_ret
    exact ⟨⟨_, rfl⟩, c2, HG2.out⟩

set_option maxRecDepth 100000 in
set_option maxHeartbeats 1000000 in
theorem cQuery (q : Nat) (ao : Option Addr) (n cap : Nat) (am : Option Addr) (cm : Nat) (ms : List Mk) (w : World) (hc : Cur w q ao n cap) (hv : CodeV w ao n) (hn : n ≤ 4096) (hm : MView w am ms) (hat : ∀ i, (mat ms i).length ≤ 5) :
    Calls Try.prog 35 #[.pointer (some ⟨q, 0, none⟩), .slice am ms.length cm] w fun e w' => (∃ g c xs, e = .returned (.slice (some ⟨g, 0, none⟩) xs.length c) ∧ xs.length ≤ 6 ∧ Row w.heap.size w' g c xs) ∧ Cur w' q ao n cap ∧ w.grownBy w' (some q) := by
  have hw : widthV ms ≤ 5 := by unfold widthV; split; omega; exact hat 0
  go_enter Try.func35, Try.ntmps35
  go_wp2_with fail
  refine (sWidth am cm ms _ hm (fun i => by have := hat i; omega)).mono ?_
  rintro e w1 ⟨rfl, rfl⟩
  go_wp2_with fail
  refine (cAny q ao n cap (widthV ms) _ hc hv hn (by omega)).mono ?_
  rintro e w2 ⟨⟨g, c, xs, rfl, hl, hrow⟩, c2, g2⟩
  go_wp2_with fail
  go_ret
  exact ⟨⟨g, c, xs, rfl, by omega, hrow⟩, c2, g2⟩

/-- Marks, a place and a number, ready for a call. -/
def NGot (w : World) (g c : Nat) (ms : List Mk) (g' : Nat) (q : List Int) : Prop := MView w (some ⟨g, 0, none⟩) ms ∧ MSmall ms ∧ ms.length ≤ c ∧ ms.length ≤ 60 ∧ View w (some ⟨g', 0, none⟩) q ∧ q.length ≤ 6

set_option maxRecDepth 100000 in
set_option maxHeartbeats 1000000 in
theorem cNear (ao : Option Addr) (n cap : Nat) (w : World) (hv : CodeV w ao n) (hn : n ≤ 4096) :
    Calls Try.prog 9 #[.slice ao n cap] w fun e w' => ∃ g c ms g' c' q x, e = .returned (.tuple #[.slice (some ⟨g, 0, none⟩) ms.length c, .slice (some ⟨g', 0, none⟩) q.length c', .int .i64 x]) ∧ NGot w' g c ms g' q ∧ Below w.heap.size w w' := by
  go_enter Try.func9, Try.ntmps9
  go_wp2_with fail
  refine (cNew ao n cap _ hv hn).mono ?_
  rintro e w1 ⟨rfl, c1, L1⟩
  have hv1 := hv.below (Nat.le_refl _) L1
  have hq := c1.lt
  go_wp2_with fail
  refine (cMarksAny _ ao n cap 8 _ c1 hv1 hn (by omega) (by omega)).mono ?_
  rintro e w2 ⟨⟨g, c, ms, rfl, hnew⟩, c2, g2⟩
  have L2 : Below w.heap.size w w2 := L1.grown g2 L1.size (by intro k hk; cases hk; exact Nat.le_refl _)
  have hv2 := hv1.grown c1 g2
  go_wp2_with fail
  refine (cQuery _ ao n cap _ c ms _ c2 hv2 hn hnew.view hnew.2.2.2).mono ?_
  rintro e w3 ⟨⟨g', c', xs, rfl, hxl, hrow⟩, c3, g3⟩
  have L3 : Below w.heap.size w w3 := L2.grown g3 L2.size (by intro k hk; cases hk; exact Nat.le_refl _)
  have hv3 := hv2.grown c2 g3
  have hnew3 := hnew.kept g3 (by intro k hk; cases hk; exact hq)
  have hrl := World.ownsRow.lt hrow g' rfl
  have hq2 := c2.lt
  go_wp2_with fail
  refine (cCount _ ao n cap _ c3 hv3 hn).mono ?_
  rintro e w4 ⟨⟨x, rfl⟩, c4, g4⟩
  have L4 : Below w.heap.size w w4 := L3.grown g4 L3.size (by intro k hk; cases hk; exact Nat.le_refl _)
  have hnew4 := hnew3.kept g4 (by intro k hk; cases hk; exact hq)
  have hrow4 : Row w2.heap.size w4 g' c' xs := World.ownsRow.kept hrow g4 (Or.inr (by simp [Value.ownBlock]; omega))
  go_wp2_with fail
  go_ret3
  exact ⟨g, c, ms, g', c', xs, x, rfl, ⟨hnew4.view, hnew4.small (by omega), hnew4.2.1, by have := hnew4.1; omega, hrow4.view, hxl⟩, L4⟩

end Go.Proofs.Ytgfcdfiekancnaa
namespace Go.Proofs.Ytgfcdfiekancnaa
open Go Go.RowKit

set_option maxRecDepth 100000 in
set_option maxHeartbeats 2000000 in
theorem cHits (q : Nat) (ao : Option Addr) (n cap : Nat) (w : World) (hc : Cur w q ao n cap) (hv : CodeV w ao n) (hn : n ≤ 4096) :
    Calls Try.prog 41 #[.pointer (some ⟨q, 0, none⟩)] w fun e w' => (∃ g c hs, e = .returned (.slice (some ⟨g, 0, none⟩) hs.length c) ∧ hs.length ≤ 5 ∧ HRow w.heap.size w' g c hs) ∧ Cur w' q ao n cap ∧ w.grownBy w' (some q) := by
  have hq := hc.lt
  obtain ⟨j0, hj0, hy0, hy1, hy2⟩ := info_parts Try.info68
  have HC := hidP hc
  have HV := hidP hv
  have C0 := hc.alloc (.cells #[] 68)
  have G0 := World.grownBy_alloc w (.cells #[] 68) (some q)
  have V0 := hv.grown hc G0
  have R0 := hidP (HRow.start w w.heap.size (Nat.le_refl _))
  clear hc hv
  go_enter Try.func41, Try.ntmps41
  go_wp2_with fail
  generalize w.alloc (.cells #[] 68) = W0 at *
  refine (cBelow q ao n cap 5 _ C0 V0 hn (by omega) (by omega)).mono ?_
  rintro e w1 ⟨⟨z, za, zb, rfl⟩, c1, g1⟩
  have R1 := hidP (R0.out.kept g1 (by simp; omega))
  have G1 := grown_trans G0 g1
  clear V0 C0 g1 G0 R0
  go_wp2_with fail
  go_loopw [3, 4] (fun v s wr => ∃ (hs : List Ht) (g c : Nat) (m : Int), v = .slice (some ⟨g, 0, none⟩) hs.length c ∧ s = .int .i64 m ∧ 0 ≤ m ∧ hs.length + m ≤ 4 ∧ HRow w.heap.size wr g c hs ∧ Cur wr q ao n cap ∧ w.grownBy wr (some q)) (fun _ s _ => (intOf s).toNat)
  case atStart => exact ⟨[], w.heap.size, 0, z, rfl, rfl, za, by simp; omega, R1.out, c1, G1⟩
  case round =>
    obtain ⟨hs, g, c, m, rfl, rfl, hm1, hm2, hro, cr, G⟩ := hrel
    have HR := hidP hro
    have Vr := HV.out.grown HC.out G
    have hgl := hro.lt
    clear hro
    by_cases hpos : 0 < m
    · go_wp2_with fail
      refine (cBelow q ao n cap 6 _ cr Vr hn (by omega) (by omega)).mono ?_
      rintro e w3 ⟨⟨x, xa, xb, rfl⟩, c3, g3⟩
      have R3 := hidP (HR.out.kept g3 (by simp; omega))
      have G3 := grown_trans G g3
      have V3 := HV.out.grown HC.out G3
      clear cr Vr G g3 HR
      go_wp2_with fail
      refine (cBelow q ao n cap 9 _ c3 V3 hn (by omega) (by omega)).mono ?_
      rintro e w4 ⟨⟨y, ya, yb, rfl⟩, c4, g4⟩
      have R4 := hidP (R3.out.kept g4 (by simp; omega))
      have G4 := grown_trans G3 g4
      have HP := hidP (sPut w.heap.size g c hs (1 + x, y) w4 R4.out (by omega))
      have HPL := hidP (putL_length hs (1 + x, y))
      clear c3 V3 g4 G3 R3
      go_wp2_with fail
      refine HP.out.mono ?_
      rintro e w5 ⟨g', c', rfl, hrow5, L5⟩
      have hs4 := G4.size
      have R5 := hidP (hrow5.mono hs4)
      have G5 := hidP (grown_trans G4 (below_grown (some q) L5))
      have C5 := hidP (c4.grown (below_grown none L5) (by simp))
      clear hrow5 L5 HP
      go_wp2_with fail
      go_roundw
      case rel => exact ⟨putL hs (1 + x, y), g', c', m - 1, rfl, rfl, by omega, by have := HPL.out; omega, R5.out, C5.out, G5.out⟩
      case measure => simp [intOf]; omega
    · go_wp2_with fail
      refine (cOnce q ao n cap 10 _ cr Vr hn (by omega) (by omega)).mono ?_
      rintro e w3 ⟨⟨x, rfl⟩, c3, g3⟩
      have R3 := hidP (HR.out.kept g3 (by simp; omega))
      have G3 := grown_trans G g3
      have V3 := HV.out.grown HC.out G3
      clear cr Vr G g3 HR
      cases x with
      | false =>
        go_wp2_with fail
        go_ret
        exact ⟨⟨g, c, hs, rfl, by omega, R3.out⟩, c3, G3⟩
      | true =>
        go_wp2_with fail
        refine (cBelow q ao n cap 2 _ c3 V3 hn (by omega) (by omega)).mono ?_
        rintro e w4 ⟨⟨y, ya, yb, rfl⟩, c4, g4⟩
        have R4 := hidP (R3.out.kept g4 (by simp; omega))
        have G4 := grown_trans G3 g4
        have V4 := HV.out.grown HC.out G4
        clear c3 V3 g4 G3 R3
        go_wp2_with fail
        refine (cFrom q ao n cap (-1) 4 _ c4 V4 hn (by omega) (by omega) (by omega) (by omega)).mono ?_
        rintro e w5 ⟨⟨t, ta, tb, rfl⟩, c5, g5⟩
        have G5 := grown_trans G4 g5
        have HRA := hidP ((R4.out.kept g5 (by simp; omega)).kept (World.grownBy_alloc w5 (.cells #[.int .i64 y, .int .i64 t] 68) none) (by simp))
        have hs5 := G5.size
        clear c4 V4 g5 G4 R4
        go_wp2_with (at_builtin; refine wpList_append_at _ rfl (.tmp 22) (.tmp 28) 28 rfl w.heap.size 68 j0 _ 2 16 Try.underlying28 hj0 hy0 hy1 hy2 rfl (by omega) g hs.length c (hCells hs) rfl HRA.out (some ⟨w5.heap.size, 0, none⟩) 1 1 (hCells [(y, t)]) rfl (one_src (heap_alloc_new w5 _)) (by unfold maxLen; omega) (by omega) (by simp; omega) (w5.heap.size + 1) (by simp) ?_; intro gg cc w6 hown hgrow hat hltt)
        go_ret
        exact ⟨⟨gg, cc, hs ++ [(y, t)], by rw [List.length_append, List.length_singleton]; rfl, by simp; omega, HRow.snoc hown⟩, (c5.alloc _).grown hgrow (by simp; omega), grown_far (grown_far G5 (World.grownBy_alloc w5 _ none) (by simp)) hgrow (by intro k hk; cases hk; omega)⟩

set_option maxRecDepth 100000 in
set_option maxHeartbeats 1000000 in
theorem cMerged (ao : Option Addr) (n cap : Nat) (w : World) (hv : CodeV w ao n) (hn : n ≤ 4096) :
    Calls Try.prog 11 #[.slice ao n cap] w fun e w' => ∃ g c hs g' c' ks x, e = .returned (.tuple #[.slice (some ⟨g, 0, none⟩) hs.length c, .slice (some ⟨g', 0, none⟩) ks.length c', .int .i64 x]) ∧ hs.length ≤ 5 ∧ ks.length ≤ 5 ∧ HView w' (some ⟨g, 0, none⟩) hs ∧ HView w' (some ⟨g', 0, none⟩) ks ∧ Below w.heap.size w w' := by
  go_enter Try.func11, Try.ntmps11
  go_wp2_with fail
  refine (cNew ao n cap _ hv hn).mono ?_
  rintro e w1 ⟨rfl, c1, L1⟩
  have hv1 := hv.below (Nat.le_refl _) L1
  have hq := c1.lt
  go_wp2_with fail
  refine (cHits _ ao n cap _ c1 hv1 hn).mono ?_
  rintro e w2 ⟨⟨g, c, hs, rfl, hl, hrow⟩, c2, g2⟩
  have L2 : Below w.heap.size w w2 := L1.grown g2 L1.size (by intro k hk; cases hk; exact Nat.le_refl _)
  have hv2 := hv1.grown c1 g2
  have hgl := hrow.lt
  go_wp2_with fail
  refine (cHits _ ao n cap _ c2 hv2 hn).mono ?_
  rintro e w3 ⟨⟨g', c', ks, rfl, hl', hrow'⟩, c3, g3⟩
  have L3 : Below w.heap.size w w3 := L2.grown g3 L2.size (by intro k hk; cases hk; exact Nat.le_refl _)
  have hv3 := hv2.grown c2 g3
  have hrow3 := hrow.kept g3 (by simp; omega)
  have hgl' := hrow'.lt
  have hz2 := g2.size
  go_wp2_with fail
  refine (cCount _ ao n cap _ c3 hv3 hn).mono ?_
  rintro e w4 ⟨⟨x, rfl⟩, c4, g4⟩
  have L4 : Below w.heap.size w w4 := L3.grown g4 L3.size (by intro k hk; cases hk; exact Nat.le_refl _)
  have hrow4 := hrow3.kept g4 (by simp; omega)
  have hrow4' := hrow'.kept g4 (by simp; omega)
  go_wp2_with fail
  go_ret3
  exact ⟨g, c, hs, g', c', ks, x, rfl, hl, hl', hrow4.view, hrow4'.view, L4⟩

end Go.Proofs.Ytgfcdfiekancnaa
