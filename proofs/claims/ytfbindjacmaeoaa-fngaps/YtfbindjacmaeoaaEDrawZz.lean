/-
  The draws of chapter 12: DrawThreads, DrawGroups, and threads that tie each mark to one ahead of it.
  The draws of chapter 12: DrawTied and DrawTotal.
-/
import Derived.Test.YtfbindjacmaeoaaMHighZz
import Derived.Test.YtfbindjacmaeoaaESpAZz
namespace Go.Proofs.Ytfbindjacmaeoaa
open Go Go.RowKit

set_option maxRecDepth 100000 in
set_option maxHeartbeats 1000000 in
theorem cDrawThr (ao : Option Addr) (n cap : Nat) (w : World) (hv : CodeV w ao n) (hn : n ≤ 4096) :
    Calls Try.prog 11 #[.slice ao n cap] w fun e w' => ∃ g c ms kd, e = .returned (.tuple #[.slice (some ⟨g, 0, none⟩) ms.length c, .int .i64 kd]) ∧ MView w' (some ⟨g, 0, none⟩) ms ∧ (MSmall ms ∧ ms.length ≤ c) ∧ ms.length ≤ 7 ∧ Below w.heap.size w w' := by
  go_enter Try.func11, Try.ntmps11
  go_wp2_with fail
  refine (cNew ao n cap _ hv hn).mono ?_
  rintro e w1 ⟨rfl, c1, L1⟩
  have hv1 := hv.below (Nat.le_refl _) L1
  go_wp2_with fail
  refine (cMarksAny _ ao n cap 7 _ c1 hv1 hn (by omega) (by omega)).mono ?_
  rintro e w2 ⟨⟨g, c, ms, rfl, hnew⟩, c2, g2⟩
  have L2 : Below w.heap.size w w2 := L1.grown g2 L1.size (by intro k hk; cases hk; exact Nat.le_refl _)
  have hv2 := hv1.grown c1 g2
  have hq := c1.lt
  have HN2 := hidP hnew
  have hl7 := hnew.1
  clear hnew L1 hv1
  go_wp2_with fail
  refine (cKind _ ao n cap _ c2 hv2 hn).mono ?_
  rintro e w3 ⟨⟨kd, rfl⟩, c3, g3⟩
  have L3 : Below w.heap.size w w3 := L2.grown g3 L2.size (by intro k hk; cases hk; exact Nat.le_refl _)
  have HN3 := hidP (HN2.out.kept g3 (by intro k hk; cases hk; exact hq))
  have HL3 := hidP L3
  clear HN2 L2 g3 L3 c1 c2 c3 g2 hv2
  go_wp2_with fail
  go_ret2
  exact ⟨g, c, ms, kd, rfl, HN3.out.view, ⟨HN3.out.small (by omega), HN3.out.2.1⟩, by omega, HL3.out⟩

set_option maxRecDepth 100000 in
set_option maxHeartbeats 1000000 in
theorem cDrawGrp (ao : Option Addr) (n cap : Nat) (w : World) (hv : CodeV w ao n) (hn : n ≤ 4096) :
    Calls Try.prog 23 #[.slice ao n cap] w fun e w' => ∃ g c ms kd k, e = .returned (.tuple #[.slice (some ⟨g, 0, none⟩) ms.length c, .int .i64 kd, .int .i64 k]) ∧ MView w' (some ⟨g, 0, none⟩) ms ∧ (MSmall ms ∧ ms.length ≤ c) ∧ ms.length ≤ 7 ∧ 0 ≤ k ∧ k ≤ 6 ∧ Below w.heap.size w w' := by
  go_enter Try.func23, Try.ntmps23
  go_wp2_with fail
  refine (cNew ao n cap _ hv hn).mono ?_
  rintro e w1 ⟨rfl, c1, L1⟩
  have hv1 := hv.below (Nat.le_refl _) L1
  go_wp2_with fail
  refine (cMarksAny _ ao n cap 7 _ c1 hv1 hn (by omega) (by omega)).mono ?_
  rintro e w2 ⟨⟨g, c, ms, rfl, hnew⟩, c2, g2⟩
  have L2 : Below w.heap.size w w2 := L1.grown g2 L1.size (by intro k hk; cases hk; exact Nat.le_refl _)
  have hv2 := hv1.grown c1 g2
  have hq := c1.lt
  have HN2 := hidP hnew
  have hl7 := hnew.1
  clear hnew L1 hv1
  go_wp2_with fail
  refine (cKind _ ao n cap _ c2 hv2 hn).mono ?_
  rintro e w3 ⟨⟨kd, rfl⟩, c3, g3⟩
  have L3 : Below w.heap.size w w3 := L2.grown g3 L2.size (by intro k hk; cases hk; exact Nat.le_refl _)
  have hv3 := hv2.grown c2 g3
  have HN3 := hidP (HN2.out.kept g3 (by intro k hk; cases hk; exact hq))
  clear HN2 L2 g3
  go_wp2_with fail
  refine (cFrom _ ao n cap 0 6 _ c3 hv3 hn (by omega) (by omega) (by omega) (by omega)).mono ?_
  rintro e w4 ⟨⟨k, hk0, hk1, rfl⟩, c4, g4⟩
  have L4 : Below w.heap.size w w4 := L3.grown g4 L3.size (by intro k hk; cases hk; exact Nat.le_refl _)
  have HN4 := hidP (HN3.out.kept g4 (by intro k hk; cases hk; exact hq))
  have HL4 := hidP L4
  clear HN3 L3 g4 L4 c1 c2 c3 c4 g2 hv2 hv3
  go_wp2_with fail
  go_ret3
  exact ⟨g, c, ms, kd, k, rfl, HN4.out.view, ⟨HN4.out.small (by omega), HN4.out.2.1⟩, by omega, hk0, hk1, HL4.out⟩

/-- The draw of threads, between two steps. -/
structure DrT (w : World) (q : Nat) (ao : Option Addr) (n cap base : Nat) (wr : World) (g c : Nat) (ts : List Th) : Prop where
  cur : Cur wr q ao n cap
  kin : Kin base w.heap.size w wr
  row : TRow w.heap.size wr g c ts
  low : w.grownBy wr (some q)
theorem DrT.cursor {w : World} {q : Nat} {ao : Option Addr} {n cap base : Nat} {wr wr' : World} {g c : Nat} {ts : List Th} (h : DrT w q ao n cap base wr g c ts) (hq : q < base) (hqw : q < w.heap.size) (cu : Cur wr' q ao n cap) (hg : wr.grownBy wr' (some q)) : DrT w q ao n cap base wr' g c ts :=
  ⟨cu, h.kin.grown (Nat.le_refl _) hg (fun k e => by cases e; exact Or.inl hq), h.row.kept hg (fun e => by injection e with e; have := h.row.lt.1; omega), grown_trans h.low hg⟩
theorem DrT.drewN {w : World} {q : Nat} {ao : Option Addr} {n cap base : Nat} {wr : World} {g c : Nat} {ts : List Th} (h : DrT w q ao n cap base wr g c ts) (k : Nat) : DrT w q ao n cap base (wr.drewN k) g c ts :=
  ⟨h.cur, h.kin, h.row, ⟨h.low.os, h.low.tape, h.low.output, h.low.size, h.low.block⟩⟩
theorem DrT.append {w : World} {q : Nat} {ao : Option Addr} {n cap base : Nat} {wr w8 : World} {g c gg cc : Nat} {ts : List Th} {t : Th} (h : DrT w q ao n cap base wr g c ts) (hqw : q < w.heap.size) (o : Obj)
    (hown : w8.ownsRow w.heap.size 41 3 (.slice (some ⟨gg, 0, none⟩) (ts.length + 1) cc) (ts.length + 1) (tCells ts ++ tCells [t])) (hg : (wr.alloc o).grownBy w8 (some g)) : DrT w q ao n cap base w8 gg cc (ts ++ [t]) := by
  have hl := h.row.lt
  have ga := World.grownBy_alloc wr o none
  refine ⟨(h.cur.alloc _).grown hg (fun e => by injection e with e; omega), (h.kin.grown (Nat.le_refl _) ga (by simp)).grown (Nat.le_refl _) hg (fun k e => by cases e; exact Or.inr hl.1), TRow.snoc hown, ?_⟩
  exact grown_far (grown_far h.low ga (by simp)) hg (fun k e => by cases e; exact hl.1)

set_option maxRecDepth 100000 in
set_option maxHeartbeats 4000000 in
theorem cTied (q : Nat) (ao : Option Addr) (n cap base gl cl : Nat) (ms : List Mk) (most kd : Int) (w : World) (hc : Cur w q ao n cap) (hv : CodeV w ao n) (hn : n ≤ 4096) (hm : MNew base w gl cl ms most) (h60 : most ≤ 60) (hq : q < base) :
    Calls Try.prog 53 #[.pointer (some ⟨q, 0, none⟩), .slice (some ⟨gl, 0, none⟩) ms.length cl, .int .i64 kd] w fun e w' => (∃ g c ts, e = .returned (.slice (some ⟨g, 0, none⟩) ts.length c) ∧ TRow w.heap.size w' g c ts ∧ ts.length ≤ 60) ∧ Kin base w.heap.size w w' ∧ Cur w' q ao n cap ∧ w.grownBy w' (some q) := by
  have hqw := hc.lt
  have hl := hm.1
  have HM := hidP hm
  have HVC := hidP (And.intro hv hc)
  obtain ⟨j0, hj0, hy0, hy1, hy2⟩ := info_parts Try.info41
  have I0 : Hid (DrT w q ao n cap base (w.alloc (.cells #[] 41)) w.heap.size 0 []) := ⟨hc.alloc _, (Kin.refl _ _ _).grown (Nat.le_refl _) (World.grownBy_alloc w _ none) (by simp), TRow.start w _ (Nat.le_refl _), grown_far (grown_refl _ _) (World.grownBy_alloc w _ none) (by simp)⟩
  clear hm hv hc
  go_enter Try.func53, Try.ntmps53
  go_wp2_with fail
  go_loopw [7, 8] (fun v i wr => ∃ (k m g c : Nat) (ts : List Th), 1 ≤ k ∧ (k ≤ ms.length ∨ k = 1) ∧ i = .int .i64 k ∧ v = .slice (some ⟨g, 0, none⟩) m c ∧ m = ts.length ∧ m + 1 ≤ k ∧ DrT w q ao n cap base wr g c ts) (fun _ i _ => ms.length - (intOf i).toNat)
  case atStart => exact ⟨1, 0, w.heap.size, 0, [], Nat.le_refl _, Or.inr rfl, rfl, rfl, rfl, by omega, I0.out⟩
  case round =>
    obtain ⟨k, m, g, c, ts, hk1, hk2, rfl, rfl, hml, hmk, I⟩ := hrel
    clear I0
    have HI := hidP I
    have HML := hidP hml
    clear I hml
    by_cases hlt : k < ms.length
    · have hk60 : k ≤ 60 := by omega
      go_wp2_with fail
      refine (cBelow q ao n cap k _ HI.out.cur (HVC.out.1.grown HVC.out.2 HI.out.low) hn (by omega) (by omega)).mono ?_
      rintro e w2 ⟨⟨x, x0, x1, rfl⟩, c2, g2⟩
      obtain ⟨xn, rfl⟩ := Int.eq_ofNat_of_zero_le x0
      have I2 := hidP (HI.out.cursor hq hqw c2 g2)
      clear c2 g2 HI
      have hmn := HM.out.kin I2.out.kin
      obtain ⟨b, off, e, hb, hs⟩ := MSeg.seg hmn.view (by omega)
      injection e with e
      injection e with e1 e2 e3
      subst e1 e2
      obtain ⟨p0, ae, ce, p1, vae⟩ := hs.at (i := xn) (by omega)
      obtain ⟨q0, af, cf, q1, vaf⟩ := hs.at hlt
      rw [Nat.zero_add] at p0 p1 q0 q1
      have HSM := hmn.small h60
      have HBT : Hid (Calls Try.prog 65 #[.slice ae (mat ms xn).length ce, .slice af (mat ms k).length cf, .int .i64 kd] w2.drew fun e w' => e = .returned (.int .i64 (thOf ms kd (xn, k)).2.2) ∧ ∃ n, w' = w2.drew.drewN n) :=
        sBet ae af ce cf (mat ms xn) (mat ms k) kd w2.drew vae.drew vaf.drew (HSM.2 _) (HSM.2 _)
      have e1 : (thOf ms kd (xn, k)).1 = mid ms xn := rfl
      have e2 : (thOf ms kd (xn, k)).2.1 = mid ms k := rfl
      rw [← e1] at p0
      rw [← e2] at q0
      have hxn1 : (xn : Int) < (ms.length : Int) := by omega
      have hk0 : (0 : Int) ≤ (k : Int) := Int.natCast_nonneg _
      have hkl : (k : Int) < (ms.length : Int) := by omega
      clear e1 e2 hmn hs vae vaf HSM
      generalize thOf ms kd (xn, k) = d at *
      generalize mat ms xn = ma at *
      generalize mat ms k = mb at *
      go_wp2_with fail
      have hS0 := And.intro p0 (And.intro p1 (And.intro q0 q1))
      refine wp_region_calm (S := fun w' => w'.cell? ⟨gl, xn * 2, none⟩ = some (.int .i64 d.1) ∧ w'.cell? ⟨gl, xn * 2 + 1, none⟩ = some (.slice ae ma.length ce) ∧ w'.cell? ⟨gl, k * 2, none⟩ = some (.int .i64 d.2.1) ∧ w'.cell? ⟨gl, k * 2 + 1, none⟩ = some (.slice af mb.length cf)) (fuel := 4)
        [0, 1, 2, 3, 4, 5, 6, 7, 8, 9, 10, 11, 12, 13, 14, 15, 16, 17, 18, 19, 20, 21] _ rfl (by kernel_rfl) (by kernel_rfl) (by kernel_rfl) (by kernel_rfl) (by kernel_rfl) (by kernel_rfl) (by kernel_rfl) hS0 (fun hS => ?_)
      simp only [List.pop_toArray, List.dropLast]
      iterate 22
        refine ⟨_, rfl, ?_⟩
        apply Exists.intro
        refine ⟨Or.inl ⟨by rfl, fun w' hw' => ?_⟩, ?_⟩
        · first
          | (go_simp; done)
          | (go_simp; with_reducible rfl)
        simp only [Act.put, List.getElem_toArray, List.getElem_cons_succ, List.getElem_cons_zero, List.setIfInBounds_toArray, List.set_cons_zero, List.set_cons_succ]
      refine calm_one 22 (by kernel_rfl) rfl (fun K hK => ?_)
      go_simp
      refine HBT.out.mono ?_
      rintro e w3 ⟨rfl, n3, hw3⟩
      have I3 : Hid (DrT w q ao n cap base w3 g c ts) := by rw [hw3]; exact (I2.out.drewN 1).drewN n3
      have hS3 : w3.cell? ⟨gl, xn * 2, none⟩ = some (.int .i64 d.1) ∧ w3.cell? ⟨gl, xn * 2 + 1, none⟩ = some (.slice ae ma.length ce) ∧ w3.cell? ⟨gl, k * 2, none⟩ = some (.int .i64 d.2.1) ∧ w3.cell? ⟨gl, k * 2 + 1, none⟩ = some (.slice af mb.length cf) := by rw [hw3]; exact hS0
      have hg3 : gl < w3.heap.size := by rw [hw3]; exact hb
      clear hw3
      refine hK.out _ _ hS3 (fun _ => ?_)
      clear hK K
      refine calm_one 23 (by kernel_rfl) rfl (fun K hK => ?_)
      go_simp
      refine hK.out _ _ hS3 (fun _ => ?_)
      clear hK K
      have HKA : Hid (∀ w', Below w3.heap.size w3 w' → w'.cell? ⟨gl, xn * 2, none⟩ = some (.int .i64 d.1) ∧ w'.cell? ⟨gl, xn * 2 + 1, none⟩ = some (.slice ae ma.length ce) ∧ w'.cell? ⟨gl, k * 2, none⟩ = some (.int .i64 d.2.1) ∧ w'.cell? ⟨gl, k * 2 + 1, none⟩ = some (.slice af mb.length cf)) := fun w' L =>
        ⟨(L.cell (p := ⟨gl, xn * 2, none⟩) hg3).trans hS3.1, (L.cell (p := ⟨gl, xn * 2 + 1, none⟩) hg3).trans hS3.2.1, (L.cell (p := ⟨gl, k * 2, none⟩) hg3).trans hS3.2.2.1, (L.cell (p := ⟨gl, k * 2 + 1, none⟩) hg3).trans hS3.2.2.2⟩
      refine calm_one 24 (by kernel_rfl) rfl (fun K hK => ?_)
      go_simp
      refine hK.out _ _ (HKA.out _ ((Below.refl _ _).alloc (Nat.le_refl _) _)) (fun _ => ?_)
      clear hK K
      have hrl := I3.out.row.lt
      have hzz := I3.out.low.size
      have hglw : gl < w.heap.size := HM.out.2.2.1.2.1
      have HOW3 : Hid (w3.ownsRow w.heap.size 41 3 (.slice (some ⟨g, 0, none⟩) m c) m (tCells ts)) := by
        have h := I3.out.row
        unfold TRow at h
        rw [← HML.out] at h
        exact h
      refine calm_one 25 (by kernel_rfl) rfl (fun K hK => ?_)
      refine step_append_at _ (by rfl) (.tmp 20) (.tmp 44) 27 (by rfl) w.heap.size 41 j0 _ 3 24 Try.underlying27 hj0 hy0 hy1 hy2 rfl (by omega) g m c (tCells ts) (by rfl) (World.ownsRow.alloc HOW3.out _) (some ⟨w3.heap.size, 0, none⟩) 1 1 (tCells [d]) (by rfl) (one_srcT (heap_alloc_new w3 _)) (by unfold maxLen; omega) (by omega) (by simp; omega) (w3.heap.size + 1) (by simp) ?_
      intro gg cc w8 hown hgrow hat8 hlt8
      have hown' : w8.ownsRow w.heap.size 41 3 (.slice (some ⟨gg, 0, none⟩) (ts.length + 1) cc) (ts.length + 1) (tCells ts ++ tCells [d]) := by rw [← HML.out]; exact hown
      have I8 := hidP (I3.out.append hqw _ hown' hgrow)
      have HM8 : Hid (m + 1 = (ts ++ [d]).length) := by show _ = _; rw [List.length_append, ← HML.out]; rfl
      have hL8 : Below w.heap.size w3 w8 := ((Below.refl _ _).alloc (by omega) _).grown hgrow (by simp; omega) (by intro k hk; cases hk; exact hrl.1)
      refine hK.out _ _ ⟨(hL8.cell (p := ⟨gl, xn * 2, none⟩) hglw).trans hS3.1, (hL8.cell (p := ⟨gl, xn * 2 + 1, none⟩) hglw).trans hS3.2.1, (hL8.cell (p := ⟨gl, k * 2, none⟩) hglw).trans hS3.2.2.1, (hL8.cell (p := ⟨gl, k * 2 + 1, none⟩) hglw).trans hS3.2.2.2⟩ (fun _ => ?_)
      clear hK K hown hgrow hat8 hlt8 hown' hL8 HKA hS3 hS0 hS I3 I2 HOW3 p0 p1 q0 q1 HBT
      refine wpAnyH_done (by kernel_rfl) ?_ _
      simp only [Exit.then]
      go_wp2_with fail
      refine NoPanic.normal ?_
      go_wp2_with fail
      go_roundw
      case rel => exact ⟨k + 1, m + 1, gg, cc, ts ++ [d], by omega, by omega, by go_num, rfl, HM8.out, by omega, I8.out⟩
      case measure => simp [intOf]; omega
    · have HE := hidP (And.intro HI.out.row (And.intro HI.out.kin (And.intro HI.out.cur HI.out.low)))
      have hm60 : m ≤ 60 := by omega
      clear HI
      go_wp2_with fail
      go_ret
      exact ⟨⟨g, c, ts, by rw [← HML.out]; rfl, HE.out.1, by rw [← HML.out]; exact hm60⟩, HE.out.2⟩

end Go.Proofs.Ytfbindjacmaeoaa
namespace Go.Proofs.Ytfbindjacmaeoaa
open Go Go.RowKit

theorem tCells_set0 (l : List Th) (k : Nat) (v : Int) (h : k < l.length) : (tCells l).set (k * 3) (.int .i64 v) = tCells (l.set k (v, (tnth l k).2)) := by
  induction l generalizing k with
  | nil => simp at h
  | cons d ds ih =>
    cases k with
    | zero => rfl
    | succ k =>
      rw [show (k + 1) * 3 = k * 3 + 1 + 1 + 1 by omega]
      have := ih k (by simpa using h)
      simp only [tCells, List.set_cons_succ, this]
      rfl
theorem tCells_set1 (l : List Th) (k : Nat) (v : Int) (h : k < l.length) : (tCells l).set (k * 3 + 1) (.int .i64 v) = tCells (l.set k ((tnth l k).1, v, (tnth l k).2.2)) := by
  induction l generalizing k with
  | nil => simp at h
  | cons d ds ih =>
    cases k with
    | zero => rfl
    | succ k =>
      rw [show (k + 1) * 3 + 1 = (k * 3 + 1) + 1 + 1 + 1 by omega]
      have := ih k (by simpa using h)
      simp only [tCells, List.set_cons_succ, this]
      rfl
theorem tCells_set2 (l : List Th) (k : Nat) (v : Int) (h : k < l.length) : (tCells l).set (k * 3 + 2) (.int .i64 v) = tCells (l.set k ((tnth l k).1, (tnth l k).2.1, v)) := by
  induction l generalizing k with
  | nil => simp at h
  | cons d ds ih =>
    cases k with
    | zero => rfl
    | succ k =>
      rw [show (k + 1) * 3 + 2 = (k * 3 + 2) + 1 + 1 + 1 by omega]
      have := ih k (by simpa using h)
      simp only [tCells, List.set_cons_succ, this]
      rfl
theorem TRow.set0 {base : Nat} {w : World} {g c : Nat} {l : List Th} (h : TRow base w g c l) (k : Nat) (v : Int) (hk : k < l.length) : TRow base (w.setCell ⟨g, k * 3, none⟩ (.int .i64 v)) g c (l.set k (v, (tnth l k).2)) := by
  have h1 := (World.ownsRow.stored h (k * 3) (.int .i64 v)).1
  rw [tCells_set0 l k v hk] at h1
  unfold TRow
  rw [List.length_set]
  exact h1
theorem TRow.set1 {base : Nat} {w : World} {g c : Nat} {l : List Th} (h : TRow base w g c l) (k : Nat) (v : Int) (hk : k < l.length) : TRow base (w.setCell ⟨g, k * 3 + 1, none⟩ (.int .i64 v)) g c (l.set k ((tnth l k).1, v, (tnth l k).2.2)) := by
  have h1 := (World.ownsRow.stored h (k * 3 + 1) (.int .i64 v)).1
  rw [tCells_set1 l k v hk] at h1
  unfold TRow
  rw [List.length_set]
  exact h1
theorem TRow.set2 {base : Nat} {w : World} {g c : Nat} {l : List Th} (h : TRow base w g c l) (k : Nat) (v : Int) (hk : k < l.length) : TRow base (w.setCell ⟨g, k * 3 + 2, none⟩ (.int .i64 v)) g c (l.set k ((tnth l k).1, (tnth l k).2.1, v)) := by
  have h1 := (World.ownsRow.stored h (k * 3 + 2) (.int .i64 v)).1
  rw [tCells_set2 l k v hk] at h1
  unfold TRow
  rw [List.length_set]
  exact h1
theorem DrT.store {w : World} {q : Nat} {ao : Option Addr} {n cap base : Nat} {wr : World} {g c : Nat} {ts ts' : List Th} (h : DrT w q ao n cap base wr g c ts) (hqw : q < w.heap.size) (j : Nat) (v : Value) (hr : TRow w.heap.size (wr.setCell ⟨g, j, none⟩ v) g c ts') : DrT w q ao n cap base (wr.setCell ⟨g, j, none⟩ v) g c ts' := by
  have hl := h.row.lt
  exact ⟨h.cur.grown (grown_setCell wr g j v) (fun e => by injection e with e; omega), h.kin.grown (Nat.le_refl _) (grown_setCell wr g j v) (fun k e => by cases e; exact Or.inr hl.1), hr, grown_far h.low (grown_setCell wr g j v) (fun k e => by cases e; exact hl.1)⟩
theorem DrT.alloc {w : World} {q : Nat} {ao : Option Addr} {n cap base : Nat} {wr : World} {g c : Nat} {ts : List Th} (h : DrT w q ao n cap base wr g c ts) (o : Obj) : DrT w q ao n cap base (wr.alloc o) g c ts :=
  ⟨h.cur.alloc _, h.kin.grown (Nat.le_refl _) (World.grownBy_alloc wr o none) (by simp), World.ownsRow.alloc h.row _, grown_far h.low (World.grownBy_alloc wr o none) (by simp)⟩

set_option maxRecDepth 100000 in
set_option maxHeartbeats 4000000 in
theorem cDrawTied (ao : Option Addr) (n cap : Nat) (w : World) (hv : CodeV w ao n) (hn : n ≤ 4096) :
    Calls Try.prog 13 #[.slice ao n cap] w fun e w' => ∃ g c ms a' c' ts kd, e = .returned (.tuple #[.slice (some ⟨g, 0, none⟩) ms.length c, .slice a' ts.length c', .int .i64 kd]) ∧ MView w' (some ⟨g, 0, none⟩) ms ∧ (MSmall ms ∧ ms.length ≤ c) ∧ TView w' a' ts ∧ ts.length ≤ 60 ∧ Below w.heap.size w w' := by
  go_enter Try.func13, Try.ntmps13
  go_wp2_with fail
  refine (cNew ao n cap _ hv hn).mono ?_
  rintro e w1 ⟨rfl, c1, L1⟩
  have hv1 := hv.below (Nat.le_refl _) L1
  go_wp2_with fail
  refine (cMarksAny _ ao n cap 7 _ c1 hv1 hn (by omega) (by omega)).mono ?_
  rintro e w2 ⟨⟨g, c, ms, rfl, hnew⟩, c2, g2⟩
  have L2 : Below w.heap.size w w2 := L1.grown g2 L1.size (by intro k hk; cases hk; exact Nat.le_refl _)
  have hv2 := hv1.grown c1 g2
  have hq := c1.lt
  have HN2 := hidP hnew
  have hl7 := hnew.1
  clear hnew L1 hv1
  go_wp2_with fail
  refine (cKind _ ao n cap _ c2 hv2 hn).mono ?_
  rintro e w3 ⟨⟨kd, rfl⟩, c3, g3⟩
  have L3 : Below w.heap.size w w3 := L2.grown g3 L2.size (by intro k hk; cases hk; exact Nat.le_refl _)
  have hv3 := hv2.grown c2 g3
  have HN3 := hidP (HN2.out.kept g3 (by intro k hk; cases hk; exact hq))
  have hq3 := c3.lt
  have HL3 := hidP L3
  have HV3 := hidP (And.intro hv3 c3)
  clear HN2 L2 g3 hv2 c2 g2 L3 c1
  go_wp2_with fail
  refine (cTied _ ao n cap w1.heap.size g c ms 7 kd w3 c3 hv3 hn HN3.out (by omega) hq).mono ?_
  rintro e w4 ⟨⟨gt, ct, ts, rfl, hrt, ht60⟩, k4, c4, g4⟩
  have I4 : Hid (DrT w3 w.heap.size ao n cap w1.heap.size w4 gt ct ts) := ⟨c4, k4, hrt, g4⟩
  clear c3 hv3 hrt k4 c4 g4
  have HVC : Hid (∀ W gt ct ts, DrT w3 w.heap.size ao n cap w1.heap.size W gt ct ts → CodeV W ao n) := fun W gt ct ts I => HV3.out.1.grown HV3.out.2 I.low
  have HEND : Hid (∀ (W : World) (gt ct : Nat) (ts : List Th) (a' : Option Addr) (ts' : List Th), DrT w3 w.heap.size ao n cap w1.heap.size W gt ct ts → TView W a' ts' → ts'.length ≤ 60 → MView W (some ⟨g, 0, none⟩) ms ∧ (MSmall ms ∧ ms.length ≤ c) ∧ TView W a' ts' ∧ ts'.length ≤ 60 ∧ Below w.heap.size w W) := fun W gt ct ts a' ts' I hv hl =>
    ⟨(HN3.out.kin I.kin).view, ⟨HN3.out.small (by omega), HN3.out.2.1⟩, hv, hl, HL3.out.grown I.low HL3.out.size (by intro k hk; cases hk; exact Nat.le_refl _)⟩
  go_wp2_with fail
  refine (cOnce _ ao n cap 3 _ I4.out.cur (HVC.out _ _ _ _ I4.out) hn (by omega) (by omega)).mono ?_
  rintro e w5 ⟨⟨x, rfl⟩, c5, g5⟩
  have I5 := hidP (I4.out.cursor hq hq3 c5 g5)
  clear I4 c5 g5
  cases x with
  | false =>
    go_wp2_with fail
    go_ret3
    exact ⟨g, c, ms, _, ct, ts, kd, rfl, HEND.out _ _ _ _ _ _ I5.out I5.out.row.view ht60⟩
  | true =>
    by_cases h0 : ts.length = 0
    · have h0b : ¬ ((0 : Int) < (ts.length : Int)) := by omega
      have H0 := hidP h0
      clear h0
      go_wp2_with fail
      go_ret3
      exact ⟨g, c, ms, _, ct, ts, kd, rfl, HEND.out _ _ _ _ _ _ I5.out I5.out.row.view ht60⟩
    · have h0b : (0 : Int) < (ts.length : Int) := by omega
      go_wp2_with fail
      refine (cBelow _ ao n cap ts.length _ I5.out.cur (HVC.out _ _ _ _ I5.out) hn (by omega) (by omega)).mono ?_
      rintro e w6 ⟨⟨y, y0, y1, rfl⟩, c6, g6⟩
      obtain ⟨yn, rfl⟩ := Int.eq_ofNat_of_zero_le y0
      have hyn : yn < ts.length := by omega
      have I6 := hidP (I5.out.cursor hq hq3 c6 g6)
      clear I5 c6 g6
      go_wp2_with fail
      refine (cBelow _ ao n cap 4 _ I6.out.cur (HVC.out _ _ _ _ I6.out) hn (by omega) (by omega)).mono ?_
      rintro e w7 ⟨⟨z, z0, z1, rfl⟩, c7, g7⟩
      have I7 := hidP (I6.out.cursor hq hq3 c7 g7)
      clear I6 c7 g7
      have hcap := I7.out.row.cap
      have hz4 : z = 0 ∨ z = 1 ∨ z = 2 ∨ z = 3 := by omega
      rcases hz4 with rfl | rfl | rfl | rfl
      · go_wp2_with fail
        refine (cBelow _ ao n cap 9 _ I7.out.cur (HVC.out _ _ _ _ I7.out) hn (by omega) (by omega)).mono ?_
        rintro e w8 ⟨⟨v, v0, v1, rfl⟩, c8, g8⟩
        have I8 := hidP (I7.out.cursor hq hq3 c8 g8)
        clear I7 c8 g8
        obtain ⟨e0, e1, e2⟩ := I8.out.row.seg yn hyn
        rw [Nat.zero_add] at e0
        have f0 := World.ownsRow.frozenAt I8.out.row (yn * 3)
        have I9 := hidP (I8.out.store hq3 (yn * 3) (.int .i64 v) (I8.out.row.set0 yn v hyn))
        clear e1 e2
        go_wp2_with fail
        go_ret3
        exact ⟨g, c, ms, _, ct, ts.set yn (v, (tnth ts yn).2), kd, by rw [List.length_set]; rfl, HEND.out _ _ _ _ _ _ I9.out I9.out.row.view (by rw [List.length_set]; exact ht60)⟩
      · obtain ⟨e0, e1, e2⟩ := I7.out.row.seg yn hyn
        rw [Nat.zero_add] at e2
        have f2 := World.ownsRow.frozenAt I7.out.row (yn * 3 + 2)
        have I9 := hidP (I7.out.store hq3 (yn * 3 + 2) (.int .i64 (wrap64 ((tnth ts yn).2.2 + 1))) (I7.out.row.set2 yn _ hyn))
        clear e0 e1
        go_wp2_with fail
        go_ret3
        exact ⟨g, c, ms, _, ct, ts.set yn ((tnth ts yn).1, (tnth ts yn).2.1, wrap64 ((tnth ts yn).2.2 + 1)), kd, by rw [List.length_set]; rfl, HEND.out _ _ _ _ _ _ I9.out I9.out.row.view (by rw [List.length_set]; exact ht60)⟩
      · have h1l : (1 : Int) ≤ (ts.length : Int) := by omega
        have h1c : (1 : Int) ≤ (ct : Int) := by omega
        have hlc : (ts.length : Int) ≤ (ct : Int) := by omega
        have hc0 : ¬ ct = 0 := by omega
        have hdl : (ts.drop 1).length = ts.length - 1 := by simp
        by_cases hc1 : ct = 1
        · subst hc1
          have hl1 : ts.length = 1 := by omega
          have HTV : Hid (∀ a' : Option Addr, TView w7 a' (ts.drop 1)) := fun a' => Or.inl (List.length_eq_zero_iff.1 (by omega))
          have HDL : Hid ((ts.drop 1).length = 0) := by show _ = _; omega
          have HL1 := hidP hl1
          go_wp2_with fail
          go_ret3
          exact ⟨g, c, ms, some ⟨gt, 0, none⟩, 0, ts.drop 1, kd, by rw [HDL.out]; rfl, HEND.out _ _ _ _ _ _ I7.out (HTV.out _) (by rw [HDL.out]; omega)⟩
        · have hc2 : ¬ ct - 1 = 0 := by omega
          have hc3 : 1 < ct := by omega
          have HTV : Hid (TView w7 (some ⟨gt, 3, none⟩) (ts.drop 1)) := by
            have h := I7.out.row.seg.drop 1
            exact Or.inr ⟨gt, 3, rfl, I7.out.row.lt.2, by simpa using h⟩
          have HDL := hidP hdl
          go_wp2_with fail
          go_ret3
          exact ⟨g, c, ms, some ⟨gt, 3, none⟩, ct - 1, ts.drop 1, kd, by rw [HDL.out]; rfl, HEND.out _ _ _ _ _ _ I7.out HTV.out (by rw [HDL.out]; omega)⟩
      · have hl1 : IntKind.i64.wrap ((ts.length : Int) - 1) = ((ts.length - 1 : Nat) : Int) := by rw [IntWalk.i64_in _ ⟨by omega, by omega⟩]; omega
        have hl2 : ((ts.length - 1 : Nat) : Int) < (ts.length : Int) := by omega
        have hl3 : (0 : Int) ≤ ((ts.length - 1 : Nat) : Int) := by omega
        obtain ⟨d0, d1, d2⟩ := I7.out.row.seg (ts.length - 1) (by omega)
        have e0 : w7.cell? ⟨gt, 0, none⟩ = some (.int .i64 (tnth ts 0).1) := (I7.out.row.seg 0 (by omega)).1
        have e1 : w7.cell? ⟨gt, 1, none⟩ = some (.int .i64 (tnth ts 0).2.1) := (I7.out.row.seg 0 (by omega)).2.1
        have e2 : w7.cell? ⟨gt, 2, none⟩ = some (.int .i64 (tnth ts 0).2.2) := (I7.out.row.seg 0 (by omega)).2.2
        rw [Nat.zero_add] at d0 d1 d2
        have f0 := World.ownsRow.frozenAt I7.out.row 0
        have f1 := World.ownsRow.frozenAt I7.out.row 1
        have f2 := World.ownsRow.frozenAt I7.out.row 2
        have r0 := I7.out.row.set0 0 (tnth ts (ts.length - 1)).1 (by omega)
        have J0 := I7.out.store hq3 (0 * 3) _ r0
        have r1 := r0.set1 0 (tnth ts (ts.length - 1)).2.1 (by rw [List.length_set]; omega)
        have J1 := J0.store hq3 (0 * 3 + 1) _ r1
        have r2 := r1.set2 0 (tnth ts (ts.length - 1)).2.2 (by rw [List.length_set, List.length_set]; omega)
        have J2 := J1.store hq3 (0 * 3 + 2) _ r2
        obtain ⟨ts', hts', htl⟩ : ∃ ts', DrT w3 w.heap.size ao n cap w1.heap.size (((w7.setCell ⟨gt, 0, none⟩ (.int .i64 (tnth ts (ts.length - 1)).1)).setCell ⟨gt, 1, none⟩ (.int .i64 (tnth ts (ts.length - 1)).2.1)).setCell ⟨gt, 2, none⟩ (.int .i64 (tnth ts (ts.length - 1)).2.2)) gt ct ts' ∧ ts'.length = ts.length := ⟨_, J2, by simp⟩
        have I9 := hidP hts'
        have HTL := hidP htl
        clear r0 J0 r1 J1 r2 J2 hts' htl I7
        go_wp2_with fail
        go_ret3
        exact ⟨g, c, ms, _, ct, ts', kd, by rw [HTL.out]; rfl, HEND.out _ _ _ _ _ _ I9.out I9.out.row.view (by rw [HTL.out]; exact ht60)⟩

theorem DrT.vals {w : World} {q : Nat} {ao : Option Addr} {n cap base : Nat} {wr : World} {g c : Nat} {ts : List Th} (h : DrT w q ao n cap base wr g c ts) (hl : 0 < ts.length) : wr.cell? ⟨g, 2, none⟩ = some (.int .i64 (tnth ts 0).2.2) ∧ wr.frozen? ⟨g, 2, none⟩ = false :=
  ⟨(h.row.seg 0 hl).2.2, World.ownsRow.frozenAt h.row 2⟩

set_option maxRecDepth 100000 in
set_option maxHeartbeats 4000000 in
theorem cDrawTotal (ao : Option Addr) (n cap : Nat) (w : World) (hv : CodeV w ao n) (hn : n ≤ 4096) :
    Calls Try.prog 14 #[.slice ao n cap] w fun e w' => ∃ g c ts, e = .returned (.slice (some ⟨g, 0, none⟩) ts.length c) ∧ TView w' (some ⟨g, 0, none⟩) ts ∧ ts.length ≤ 60 ∧ Below w.heap.size w w' := by
  go_enter Try.func14, Try.ntmps14
  go_wp2_with fail
  refine (cNew ao n cap _ hv hn).mono ?_
  rintro e w1 ⟨rfl, c1, L1⟩
  have hv1 := hv.below (Nat.le_refl _) L1
  go_wp2_with fail
  refine (cMarks _ ao n cap 7 _ c1 hv1 hn (by omega) (by omega)).mono ?_
  rintro e w2 ⟨⟨g, c, ds, rfl, hnew⟩, c2, g2⟩
  have L2 : Below w.heap.size w w2 := L1.grown g2 L1.size (by intro k hk; cases hk; exact Nat.le_refl _)
  have hv2 := hv1.grown c1 g2
  have hq := c1.lt
  have hq2 := c2.lt
  have hdl := dMarks_length ds
  have HN2 := hidP hnew.any
  have HL2 := hidP L2
  have HV2 := hidP (And.intro hv2 c2)
  have HT := hidP (cTied _ ao n cap w1.heap.size g c (dMarks ds) 7 2 w2 c2 hv2 hn HN2.out (by omega) hq)
  rw [hdl] at HT
  clear hnew L1 hv1 c1 g2 L2 c2 hv2
  go_wp2_with fail
  refine HT.out.mono ?_
  rintro e w4 ⟨⟨gt, ct, ts, rfl, hrt, ht60⟩, k4, c4, g4⟩
  have I4 : Hid (DrT w2 w.heap.size ao n cap w1.heap.size w4 gt ct ts) := ⟨c4, k4, hrt, g4⟩
  clear HT hrt k4 c4 g4
  have HVC : Hid (∀ W gt ct ts, DrT w2 w.heap.size ao n cap w1.heap.size W gt ct ts → CodeV W ao n) := fun W gt ct ts I => HV2.out.1.grown HV2.out.2 I.low
  have HEND : Hid (∀ (W : World) (gt ct : Nat) (ts : List Th), DrT w2 w.heap.size ao n cap w1.heap.size W gt ct ts → TView W (some ⟨gt, 0, none⟩) ts ∧ Below w.heap.size w W) := fun W gt ct ts I =>
    ⟨I.row.view, HL2.out.grown I.low HL2.out.size (by intro k hk; cases hk; exact Nat.le_refl _)⟩
  go_wp2_with fail
  refine (cOnce _ ao n cap 10 _ I4.out.cur (HVC.out _ _ _ _ I4.out) hn (by omega) (by omega)).mono ?_
  rintro e w5 ⟨⟨x, rfl⟩, c5, g5⟩
  have I5 := hidP (I4.out.cursor hq hq2 c5 g5)
  clear I4 c5 g5
  cases x with
  | false =>
    go_wp2_with fail
    go_ret
    exact ⟨gt, ct, ts, rfl, (HEND.out _ _ _ _ I5.out).1, ht60, (HEND.out _ _ _ _ I5.out).2⟩
  | true =>
    by_cases h0 : ts.length = 0
    · have h0b : ¬ ((0 : Int) < (ts.length : Int)) := by omega
      have H0 := hidP h0
      clear h0
      go_wp2_with fail
      go_ret
      exact ⟨gt, ct, ts, rfl, (HEND.out _ _ _ _ I5.out).1, ht60, (HEND.out _ _ _ _ I5.out).2⟩
    · have h0b : (0 : Int) < (ts.length : Int) := by omega
      have I6 := hidP (I5.out.alloc (.cells #[.int .i64 (-1), .int .i64 1099511627776, .int .i64 1099511627777] 2))
      go_wp2_with fail
      refine (cBelow _ ao n cap 3 _ I6.out.cur (HVC.out _ _ _ _ I6.out) hn (by omega) (by omega)).mono ?_
      rintro e w7 ⟨⟨y, y0, y1, rfl⟩, c7, g7⟩
      have hlit : w7.heap[w5.heap.size]? = some (.cells #[.int .i64 (-1), .int .i64 1099511627776, .int .i64 1099511627777] 2) :=
        (g7.block _ (by simp) (by have := I5.out.low.size; simp; omega)).trans (heap_alloc_new w5 _)
      have I7 := hidP (I6.out.cursor hq hq2 c7 g7)
      clear I5 I6 c7 g7
      obtain ⟨e2, f2⟩ := I7.out.vals (by omega)
      have I8 : Hid (∀ v : Int, DrT w2 w.heap.size ao n cap w1.heap.size (w7.setCell ⟨gt, 2, none⟩ (.int .i64 v)) gt ct (ts.set 0 ((tnth ts 0).1, (tnth ts 0).2.1, v))) := fun v => I7.out.store hq2 (0 * 3 + 2) _ (I7.out.row.set2 0 v (by omega))
      have hy3 : y = 0 ∨ y = 1 ∨ y = 2 := by omega
      rcases hy3 with rfl | rfl | rfl
      · have hc : w7.cell? ⟨w5.heap.size, 0, none⟩ = some (.int .i64 (-1)) := by simp [World.cell?, hlit]
        clear hlit
        go_wp2_with fail
        go_ret
        exact ⟨gt, ct, _, by rw [List.length_set]; rfl, (HEND.out _ _ _ _ (I8.out (-1))).1, by rw [List.length_set]; exact ht60, (HEND.out _ _ _ _ (I8.out (-1))).2⟩
      · have hc : w7.cell? ⟨w5.heap.size, 1, none⟩ = some (.int .i64 1099511627776) := by simp [World.cell?, hlit]
        clear hlit
        go_wp2_with fail
        go_ret
        exact ⟨gt, ct, _, by rw [List.length_set]; rfl, (HEND.out _ _ _ _ (I8.out 1099511627776)).1, by rw [List.length_set]; exact ht60, (HEND.out _ _ _ _ (I8.out 1099511627776)).2⟩
      · have hc : w7.cell? ⟨w5.heap.size, 2, none⟩ = some (.int .i64 1099511627777) := by simp [World.cell?, hlit]
        clear hlit
        go_wp2_with fail
        go_ret
        exact ⟨gt, ct, _, by rw [List.length_set]; rfl, (HEND.out _ _ _ _ (I8.out 1099511627777)).1, by rw [List.length_set]; exact ht60, (HEND.out _ _ _ _ (I8.out 1099511627777)).2⟩

end Go.Proofs.Ytfbindjacmaeoaa
