/-
  The draws of chapter 12: DrawThreads, DrawGroups, and threads that tie each mark to one ahead of it.
-/
import Derived.Test.YtfbindjacmaeoaaMAnyZz
import Derived.Test.YtfbindjacmaeoaaMHighZz
import Derived.Test.YtfbindjacmaeoaaESpAZz
namespace Go.Proofs.Ytfbindjacmaeoaa
open Go Go.RowKit

set_option maxRecDepth 100000 in
set_option maxHeartbeats 1000000 in
theorem cDrawThr (ao : Option Addr) (n cap : Nat) (w : World) (hv : CodeV w ao n) (hn : n ≤ 4096) :
    Calls Try.prog 11 #[.slice ao n cap] w fun e w' => ∃ g c ms kd, e = .returned (.tuple #[.slice (some ⟨g, 0, none⟩) ms.length c, .int .i64 kd]) ∧ MView w' (some ⟨g, 0, none⟩) ms ∧ (MSmall ms ∧ ms.length ≤ c) ∧ ms.length ≤ 7 ∧ Below w.heap.size w w' := by
  go_enter Try.func11, Try.ntmps11
  go_wp2_with fail
  refine (cNew ao n cap _ hv hn).mono ?_
  rintro e w1 ⟨rfl, c1, L1⟩
  have hv1 := hv.below (Nat.le_refl _) L1
  go_wp2_with fail
  refine (cMarksAny _ ao n cap 7 _ c1 hv1 hn (by omega) (by omega)).mono ?_
  rintro e w2 ⟨⟨g, c, ms, rfl, hnew⟩, c2, g2⟩
  have L2 : Below w.heap.size w w2 := L1.grown g2 L1.size (by intro k hk; cases hk; exact Nat.le_refl _)
  have hv2 := hv1.grown c1 g2
  have hq := c1.lt
  have HN2 := hidP hnew
  have hl7 := hnew.1
  clear hnew L1 hv1
  go_wp2_with fail
  refine (cKind _ ao n cap _ c2 hv2 hn).mono ?_
  rintro e w3 ⟨⟨kd, rfl⟩, c3, g3⟩
  have L3 : Below w.heap.size w w3 := L2.grown g3 L2.size (by intro k hk; cases hk; exact Nat.le_refl _)
  have HN3 := hidP (HN2.out.kept g3 (by intro k hk; cases hk; exact hq))
  have HL3 := hidP L3
  clear HN2 L2 g3 L3 c1 c2 c3 g2 hv2
  go_wp2_with fail
  go_ret2
  exact ⟨g, c, ms, kd, rfl, HN3.out.view, ⟨HN3.out.small (by omega), HN3.out.2.1⟩, by omega, HL3.out⟩

set_option maxRecDepth 100000 in
set_option maxHeartbeats 1000000 in
theorem cDrawGrp (ao : Option Addr) (n cap : Nat) (w : World) (hv : CodeV w ao n) (hn : n ≤ 4096) :
    Calls Try.prog 23 #[.slice ao n cap] w fun e w' => ∃ g c ms kd k, e = .returned (.tuple #[.slice (some ⟨g, 0, none⟩) ms.length c, .int .i64 kd, .int .i64 k]) ∧ MView w' (some ⟨g, 0, none⟩) ms ∧ (MSmall ms ∧ ms.length ≤ c) ∧ ms.length ≤ 7 ∧ 0 ≤ k ∧ k ≤ 6 ∧ Below w.heap.size w w' := by
  go_enter Try.func23, Try.ntmps23
  go_wp2_with fail
  refine (cNew ao n cap _ hv hn).mono ?_
  rintro e w1 ⟨rfl, c1, L1⟩
  have hv1 := hv.below (Nat.le_refl _) L1
  go_wp2_with fail
  refine (cMarksAny _ ao n cap 7 _ c1 hv1 hn (by omega) (by omega)).mono ?_
  rintro e w2 ⟨⟨g, c, ms, rfl, hnew⟩, c2, g2⟩
  have L2 : Below w.heap.size w w2 := L1.grown g2 L1.size (by intro k hk; cases hk; exact Nat.le_refl _)
  have hv2 := hv1.grown c1 g2
  have hq := c1.lt
  have HN2 := hidP hnew
  have hl7 := hnew.1
  clear hnew L1 hv1
  go_wp2_with fail
  refine (cKind _ ao n cap _ c2 hv2 hn).mono ?_
  rintro e w3 ⟨⟨kd, rfl⟩, c3, g3⟩
  have L3 : Below w.heap.size w w3 := L2.grown g3 L2.size (by intro k hk; cases hk; exact Nat.le_refl _)
  have hv3 := hv2.grown c2 g3
  have HN3 := hidP (HN2.out.kept g3 (by intro k hk; cases hk; exact hq))
  clear HN2 L2 g3
  go_wp2_with fail
  refine (cFrom _ ao n cap 0 6 _ c3 hv3 hn (by omega) (by omega) (by omega) (by omega)).mono ?_
  rintro e w4 ⟨⟨k, hk0, hk1, rfl⟩, c4, g4⟩
  have L4 : Below w.heap.size w w4 := L3.grown g4 L3.size (by intro k hk; cases hk; exact Nat.le_refl _)
  have HN4 := hidP (HN3.out.kept g4 (by intro k hk; cases hk; exact hq))
  have HL4 := hidP L4
  clear HN3 L3 g4 L4 c1 c2 c3 c4 g2 hv2 hv3
  go_wp2_with fail
  go_ret3
  exact ⟨g, c, ms, kd, k, rfl, HN4.out.view, ⟨HN4.out.small (by omega), HN4.out.2.1⟩, by omega, hk0, hk1, HL4.out⟩

/-- The draw of threads, between two steps. -/
structure DrT (w : World) (q : Nat) (ao : Option Addr) (n cap base : Nat) (wr : World) (g c : Nat) (ts : List Th) : Prop where
  cur : Cur wr q ao n cap
  kin : Kin base w.heap.size w wr
  row : TRow w.heap.size wr g c ts
  low : w.grownBy wr (some q)
theorem DrT.cursor {w : World} {q : Nat} {ao : Option Addr} {n cap base : Nat} {wr wr' : World} {g c : Nat} {ts : List Th} (h : DrT w q ao n cap base wr g c ts) (hq : q < base) (hqw : q < w.heap.size) (cu : Cur wr' q ao n cap) (hg : wr.grownBy wr' (some q)) : DrT w q ao n cap base wr' g c ts :=
  ⟨cu, h.kin.grown (Nat.le_refl _) hg (fun k e => by cases e; exact Or.inl hq), h.row.kept hg (fun e => by injection e with e; have := h.row.lt.1; omega), grown_trans h.low hg⟩
theorem DrT.drewN {w : World} {q : Nat} {ao : Option Addr} {n cap base : Nat} {wr : World} {g c : Nat} {ts : List Th} (h : DrT w q ao n cap base wr g c ts) (k : Nat) : DrT w q ao n cap base (wr.drewN k) g c ts :=
  ⟨h.cur, h.kin, h.row, ⟨h.low.os, h.low.tape, h.low.output, h.low.size, h.low.block⟩⟩
theorem DrT.append {w : World} {q : Nat} {ao : Option Addr} {n cap base : Nat} {wr w8 : World} {g c gg cc : Nat} {ts : List Th} {t : Th} (h : DrT w q ao n cap base wr g c ts) (hqw : q < w.heap.size) (o : Obj)
    (hown : w8.ownsRow w.heap.size 41 3 (.slice (some ⟨gg, 0, none⟩) (ts.length + 1) cc) (ts.length + 1) (tCells ts ++ tCells [t])) (hg : (wr.alloc o).grownBy w8 (some g)) : DrT w q ao n cap base w8 gg cc (ts ++ [t]) := by
  have hl := h.row.lt
  have ga := World.grownBy_alloc wr o none
  refine ⟨(h.cur.alloc _).grown hg (fun e => by injection e with e; omega), (h.kin.grown (Nat.le_refl _) ga (by simp)).grown (Nat.le_refl _) hg (fun k e => by cases e; exact Or.inr hl.1), TRow.snoc hown, ?_⟩
  exact grown_far (grown_far h.low ga (by simp)) hg (fun k e => by cases e; exact hl.1)

set_option maxRecDepth 100000 in
set_option maxHeartbeats 4000000 in
theorem cTied (q : Nat) (ao : Option Addr) (n cap base gl cl : Nat) (ms : List Mk) (most kd : Int) (w : World) (hc : Cur w q ao n cap) (hv : CodeV w ao n) (hn : n ≤ 4096) (hm : MNew base w gl cl ms most) (h60 : most ≤ 60) (hq : q < base) :
    Calls Try.prog 53 #[.pointer (some ⟨q, 0, none⟩), .slice (some ⟨gl, 0, none⟩) ms.length cl, .int .i64 kd] w fun e w' => (∃ g c ts, e = .returned (.slice (some ⟨g, 0, none⟩) ts.length c) ∧ TRow w.heap.size w' g c ts ∧ ts.length ≤ 60) ∧ Kin base w.heap.size w w' ∧ Cur w' q ao n cap ∧ w.grownBy w' (some q) := by
  have hqw := hc.lt
  have hl := hm.1
  have HM := hidP hm
  have HVC := hidP (And.intro hv hc)
  obtain ⟨j0, hj0, hy0, hy1, hy2⟩ := info_parts Try.info41
  have I0 : Hid (DrT w q ao n cap base (w.alloc (.cells #[] 41)) w.heap.size 0 []) := ⟨hc.alloc _, (Kin.refl _ _ _).grown (Nat.le_refl _) (World.grownBy_alloc w _ none) (by simp), TRow.start w _ (Nat.le_refl _), grown_far (grown_refl _ _) (World.grownBy_alloc w _ none) (by simp)⟩
  clear hm hv hc
  go_enter Try.func53, Try.ntmps53
  go_wp2_with fail
  go_loopw [7, 8] (fun v i wr => ∃ (k m g c : Nat) (ts : List Th), 1 ≤ k ∧ (k ≤ ms.length ∨ k = 1) ∧ i = .int .i64 k ∧ v = .slice (some ⟨g, 0, none⟩) m c ∧ m = ts.length ∧ m + 1 ≤ k ∧ DrT w q ao n cap base wr g c ts) (fun _ i _ => ms.length - (intOf i).toNat)
  case atStart => exact ⟨1, 0, w.heap.size, 0, [], Nat.le_refl _, Or.inr rfl, rfl, rfl, rfl, by omega, I0.out⟩
  case round =>
    obtain ⟨k, m, g, c, ts, hk1, hk2, rfl, rfl, hml, hmk, I⟩ := hrel
    clear I0
    have HI := hidP I
    have HML := hidP hml
    clear I hml
    by_cases hlt : k < ms.length
    · have hk60 : k ≤ 60 := by omega
      go_wp2_with fail
      refine (cBelow q ao n cap k _ HI.out.cur (HVC.out.1.grown HVC.out.2 HI.out.low) hn (by omega) (by omega)).mono ?_
      rintro e w2 ⟨⟨x, x0, x1, rfl⟩, c2, g2⟩
      obtain ⟨xn, rfl⟩ := Int.eq_ofNat_of_zero_le x0
      have I2 := hidP (HI.out.cursor hq hqw c2 g2)
      clear c2 g2 HI
      have hmn := HM.out.kin I2.out.kin
      obtain ⟨b, off, e, hb, hs⟩ := MSeg.seg hmn.view (by omega)
      injection e with e
      injection e with e1 e2 e3
      subst e1 e2
      obtain ⟨p0, ae, ce, p1, vae⟩ := hs.at (i := xn) (by omega)
      obtain ⟨q0, af, cf, q1, vaf⟩ := hs.at hlt
      rw [Nat.zero_add] at p0 p1 q0 q1
      have HSM := hmn.small h60
      have HBT : Hid (Calls Try.prog 65 #[.slice ae (mat ms xn).length ce, .slice af (mat ms k).length cf, .int .i64 kd] w2.drew fun e w' => e = .returned (.int .i64 (thOf ms kd (xn, k)).2.2) ∧ ∃ n, w' = w2.drew.drewN n) :=
        sBet ae af ce cf (mat ms xn) (mat ms k) kd w2.drew vae.drew vaf.drew (HSM.2 _) (HSM.2 _)
      have e1 : (thOf ms kd (xn, k)).1 = mid ms xn := rfl
      have e2 : (thOf ms kd (xn, k)).2.1 = mid ms k := rfl
      rw [← e1] at p0
      rw [← e2] at q0
      have hxn1 : (xn : Int) < (ms.length : Int) := by omega
      have hk0 : (0 : Int) ≤ (k : Int) := Int.natCast_nonneg _
      have hkl : (k : Int) < (ms.length : Int) := by omega
      clear e1 e2 hmn hs vae vaf HSM
      generalize thOf ms kd (xn, k) = d at *
      generalize mat ms xn = ma at *
      generalize mat ms k = mb at *
      go_wp2_with fail
      have hS0 := And.intro p0 (And.intro p1 (And.intro q0 q1))
      refine wp_region_calm (S := fun w' => w'.cell? ⟨gl, xn * 2, none⟩ = some (.int .i64 d.1) ∧ w'.cell? ⟨gl, xn * 2 + 1, none⟩ = some (.slice ae ma.length ce) ∧ w'.cell? ⟨gl, k * 2, none⟩ = some (.int .i64 d.2.1) ∧ w'.cell? ⟨gl, k * 2 + 1, none⟩ = some (.slice af mb.length cf)) (fuel := 4)
        [0, 1, 2, 3, 4, 5, 6, 7, 8, 9, 10, 11, 12, 13, 14, 15, 16, 17, 18, 19, 20, 21] _ rfl (by kernel_rfl) (by kernel_rfl) (by kernel_rfl) (by kernel_rfl) (by kernel_rfl) (by kernel_rfl) (by kernel_rfl) hS0 (fun hS => ?_)
      simp only [List.pop_toArray, List.dropLast]
      iterate 22
        refine ⟨_, rfl, ?_⟩
        apply Exists.intro
        refine ⟨Or.inl ⟨by rfl, fun w' hw' => ?_⟩, ?_⟩
        · first
          | (go_simp; done)
          | (go_simp; with_reducible rfl)
        simp only [Act.put, List.getElem_toArray, List.getElem_cons_succ, List.getElem_cons_zero, List.setIfInBounds_toArray, List.set_cons_zero, List.set_cons_succ]
      refine calm_one 22 (by kernel_rfl) rfl (fun K hK => ?_)
      go_simp
      refine HBT.out.mono ?_
      rintro e w3 ⟨rfl, n3, hw3⟩
      have I3 : Hid (DrT w q ao n cap base w3 g c ts) := by rw [hw3]; exact (I2.out.drewN 1).drewN n3
      have hS3 : w3.cell? ⟨gl, xn * 2, none⟩ = some (.int .i64 d.1) ∧ w3.cell? ⟨gl, xn * 2 + 1, none⟩ = some (.slice ae ma.length ce) ∧ w3.cell? ⟨gl, k * 2, none⟩ = some (.int .i64 d.2.1) ∧ w3.cell? ⟨gl, k * 2 + 1, none⟩ = some (.slice af mb.length cf) := by rw [hw3]; exact hS0
      have hg3 : gl < w3.heap.size := by rw [hw3]; exact hb
      clear hw3
      refine hK.out _ _ hS3 (fun _ => ?_)
      clear hK K
      refine calm_one 23 (by kernel_rfl) rfl (fun K hK => ?_)
      go_simp
      refine hK.out _ _ hS3 (fun _ => ?_)
      clear hK K
      have HKA : Hid (∀ w', Below w3.heap.size w3 w' → w'.cell? ⟨gl, xn * 2, none⟩ = some (.int .i64 d.1) ∧ w'.cell? ⟨gl, xn * 2 + 1, none⟩ = some (.slice ae ma.length ce) ∧ w'.cell? ⟨gl, k * 2, none⟩ = some (.int .i64 d.2.1) ∧ w'.cell? ⟨gl, k * 2 + 1, none⟩ = some (.slice af mb.length cf)) := fun w' L =>
        ⟨(L.cell (p := ⟨gl, xn * 2, none⟩) hg3).trans hS3.1, (L.cell (p := ⟨gl, xn * 2 + 1, none⟩) hg3).trans hS3.2.1, (L.cell (p := ⟨gl, k * 2, none⟩) hg3).trans hS3.2.2.1, (L.cell (p := ⟨gl, k * 2 + 1, none⟩) hg3).trans hS3.2.2.2⟩
      refine calm_one 24 (by kernel_rfl) rfl (fun K hK => ?_)
      go_simp
      refine hK.out _ _ (HKA.out _ ((Below.refl _ _).alloc (Nat.le_refl _) _)) (fun _ => ?_)
      clear hK K
      have hrl := I3.out.row.lt
      have hzz := I3.out.low.size
      have hglw : gl < w.heap.size := HM.out.2.2.1.2.1
      have HOW3 : Hid (w3.ownsRow w.heap.size 41 3 (.slice (some ⟨g, 0, none⟩) m c) m (tCells ts)) := by
        have h := I3.out.row
        unfold TRow at h
        rw [← HML.out] at h
        exact h
      refine calm_one 25 (by kernel_rfl) rfl (fun K hK => ?_)
      refine step_append_at _ (by rfl) (.tmp 20) (.tmp 44) 27 (by rfl) w.heap.size 41 j0 _ 3 24 Try.underlying27 hj0 hy0 hy1 hy2 rfl (by omega) g m c (tCells ts) (by rfl) (World.ownsRow.alloc HOW3.out _) (some ⟨w3.heap.size, 0, none⟩) 1 1 (tCells [d]) (by rfl) (one_srcT (heap_alloc_new w3 _)) (by unfold maxLen; omega) (by omega) (by simp; omega) (w3.heap.size + 1) (by simp) ?_
      intro gg cc w8 hown hgrow hat8 hlt8
      have hown' : w8.ownsRow w.heap.size 41 3 (.slice (some ⟨gg, 0, none⟩) (ts.length + 1) cc) (ts.length + 1) (tCells ts ++ tCells [d]) := by rw [← HML.out]; exact hown
      have I8 := hidP (I3.out.append hqw _ hown' hgrow)
      have HM8 : Hid (m + 1 = (ts ++ [d]).length) := by show _ = _; rw [List.length_append, ← HML.out]; rfl
      have hL8 : Below w.heap.size w3 w8 := ((Below.refl _ _).alloc (by omega) _).grown hgrow (by simp; omega) (by intro k hk; cases hk; exact hrl.1)
      refine hK.out _ _ ⟨(hL8.cell (p := ⟨gl, xn * 2, none⟩) hglw).trans hS3.1, (hL8.cell (p := ⟨gl, xn * 2 + 1, none⟩) hglw).trans hS3.2.1, (hL8.cell (p := ⟨gl, k * 2, none⟩) hglw).trans hS3.2.2.1, (hL8.cell (p := ⟨gl, k * 2 + 1, none⟩) hglw).trans hS3.2.2.2⟩ (fun _ => ?_)
      clear hK K hown hgrow hat8 hlt8 hown' hL8 HKA hS3 hS0 hS I3 I2 HOW3 p0 p1 q0 q1 HBT
      refine wpAnyH_done (by kernel_rfl) ?_ _
      simp only [Exit.then]
      go_wp2_with fail
      refine NoPanic.normal ?_
      go_wp2_with fail
      go_roundw
      case rel => exact ⟨k + 1, m + 1, gg, cc, ts ++ [d], by omega, by omega, by go_num, rfl, HM8.out, by omega, I8.out⟩
      case measure => simp [intOf]; omega
    · have HE := hidP (And.intro HI.out.row (And.intro HI.out.kin (And.intro HI.out.cur HI.out.low)))
      have hm60 : m ≤ 60 := by omega
      clear HI
      go_wp2_with fail
      go_ret
      exact ⟨⟨g, c, ts, by rw [← HML.out]; rfl, HE.out.1, by rw [← HML.out]; exact hm60⟩, HE.out.2⟩

end Go.Proofs.Ytfbindjacmaeoaa
