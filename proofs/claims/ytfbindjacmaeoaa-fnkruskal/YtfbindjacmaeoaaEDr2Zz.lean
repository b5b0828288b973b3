/-
  The draws of chapter 12: DrawTied and DrawTotal.
-/
import Derived.Test.YtfbindjacmaeoaaEDrawZz
import Derived.Test.YtfbindjacmaeoaaESpAZz
namespace Go.Proofs.Ytfbindjacmaeoaa
open Go Go.RowKit

theorem tCells_set0 (l : List Th) (k : Nat) (v : Int) (h : k < l.length) : (tCells l).set (k * 3) (.int .i64 v) = tCells (l.set k (v, (tnth l k).2)) := by
  induction l generalizing k with
  | nil => simp at h
  | cons d ds ih =>
    cases k with
    | zero => rfl
    | succ k =>
      rw [show (k + 1) * 3 = k * 3 + 1 + 1 + 1 by omega]
      have := ih k (by simpa using h)
      simp only [tCells, List.set_cons_succ, this]
      rfl
theorem tCells_set1 (l : List Th) (k : Nat) (v : Int) (h : k < l.length) : (tCells l).set (k * 3 + 1) (.int .i64 v) = tCells (l.set k ((tnth l k).1, v, (tnth l k).2.2)) := by
  induction l generalizing k with
  | nil => simp at h
  | cons d ds ih =>
    cases k with
    | zero => rfl
    | succ k =>
      rw [show (k + 1) * 3 + 1 = (k * 3 + 1) + 1 + 1 + 1 by omega]
      have := ih k (by simpa using h)
      simp only [tCells, List.set_cons_succ, this]
      rfl
theorem tCells_set2 (l : List Th) (k : Nat) (v : Int) (h : k < l.length) : (tCells l).set (k * 3 + 2) (.int .i64 v) = tCells (l.set k ((tnth l k).1, (tnth l k).2.1, v)) := by
  induction l generalizing k with
  | nil => simp at h
  | cons d ds ih =>
    cases k with
    | zero => rfl
    | succ k =>
      rw [show (k + 1) * 3 + 2 = (k * 3 + 2) + 1 + 1 + 1 by omega]
      have := ih k (by simpa using h)
      simp only [tCells, List.set_cons_succ, this]
      rfl
theorem TRow.set0 {base : Nat} {w : World} {g c : Nat} {l : List Th} (h : TRow base w g c l) (k : Nat) (v : Int) (hk : k < l.length) : TRow base (w.setCell ⟨g, k * 3, none⟩ (.int .i64 v)) g c (l.set k (v, (tnth l k).2)) := by
  have h1 := (World.ownsRow.stored h (k * 3) (.int .i64 v)).1
  rw [tCells_set0 l k v hk] at h1
  unfold TRow
  rw [List.length_set]
  exact h1
theorem TRow.set1 {base : Nat} {w : World} {g c : Nat} {l : List Th} (h : TRow base w g c l) (k : Nat) (v : Int) (hk : k < l.length) : TRow base (w.setCell ⟨g, k * 3 + 1, none⟩ (.int .i64 v)) g c (l.set k ((tnth l k).1, v, (tnth l k).2.2)) := by
  have h1 := (World.ownsRow.stored h (k * 3 + 1) (.int .i64 v)).1
  rw [tCells_set1 l k v hk] at h1
  unfold TRow
  rw [List.length_set]
  exact h1
theorem TRow.set2 {base : Nat} {w : World} {g c : Nat} {l : List Th} (h : TRow base w g c l) (k : Nat) (v : Int) (hk : k < l.length) : TRow base (w.setCell ⟨g, k * 3 + 2, none⟩ (.int .i64 v)) g c (l.set k ((tnth l k).1, (tnth l k).2.1, v)) := by
  have h1 := (World.ownsRow.stored h (k * 3 + 2) (.int .i64 v)).1
  rw [tCells_set2 l k v hk] at h1
  unfold TRow
  rw [List.length_set]
  exact h1
theorem DrT.store {w : World} {q : Nat} {ao : Option Addr} {n cap base : Nat} {wr : World} {g c : Nat} {ts ts' : List Th} (h : DrT w q ao n cap base wr g c ts) (hqw : q < w.heap.size) (j : Nat) (v : Value) (hr : TRow w.heap.size (wr.setCell ⟨g, j, none⟩ v) g c ts') : DrT w q ao n cap base (wr.setCell ⟨g, j, none⟩ v) g c ts' := by
  have hl := h.row.lt
  exact ⟨h.cur.grown (grown_setCell wr g j v) (fun e => by injection e with e; omega), h.kin.grown (Nat.le_refl _) (grown_setCell wr g j v) (fun k e => by cases e; exact Or.inr hl.1), hr, grown_far h.low (grown_setCell wr g j v) (fun k e => by cases e; exact hl.1)⟩
theorem DrT.alloc {w : World} {q : Nat} {ao : Option Addr} {n cap base : Nat} {wr : World} {g c : Nat} {ts : List Th} (h : DrT w q ao n cap base wr g c ts) (o : Obj) : DrT w q ao n cap base (wr.alloc o) g c ts :=
  ⟨h.cur.alloc _, h.kin.grown (Nat.le_refl _) (World.grownBy_alloc wr o none) (by simp), World.ownsRow.alloc h.row _, grown_far h.low (World.grownBy_alloc wr o none) (by simp)⟩

set_option maxRecDepth 100000 in
set_option maxHeartbeats 4000000 in
theorem cDrawTied (ao : Option Addr) (n cap : Nat) (w : World) (hv : CodeV w ao n) (hn : n ≤ 4096) :
    Calls Try.prog 13 #[.slice ao n cap] w fun e w' => ∃ g c ms a' c' ts kd, e = .returned (.tuple #[.slice (some ⟨g, 0, none⟩) ms.length c, .slice a' ts.length c', .int .i64 kd]) ∧ MView w' (some ⟨g, 0, none⟩) ms ∧ (MSmall ms ∧ ms.length ≤ c) ∧ TView w' a' ts ∧ ts.length ≤ 60 ∧ Below w.heap.size w w' := by
  go_enter Try.func13, Try.ntmps13
  go_wp2_with fail
  refine (cNew ao n cap _ hv hn).mono ?_
  rintro e w1 ⟨rfl, c1, L1⟩
  have hv1 := hv.below (Nat.le_refl _) L1
  go_wp2_with fail
  refine (cMarksAny _ ao n cap 7 _ c1 hv1 hn (by omega) (by omega)).mono ?_
  rintro e w2 ⟨⟨g, c, ms, rfl, hnew⟩, c2, g2⟩
  have L2 : Below w.heap.size w w2 := L1.grown g2 L1.size (by intro k hk; cases hk; exact Nat.le_refl _)
  have hv2 := hv1.grown c1 g2
  have hq := c1.lt
  have HN2 := hidP hnew
  have hl7 := hnew.1
  clear hnew L1 hv1
  go_wp2_with fail
  refine (cKind _ ao n cap _ c2 hv2 hn).mono ?_
  rintro e w3 ⟨⟨kd, rfl⟩, c3, g3⟩
  have L3 : Below w.heap.size w w3 := L2.grown g3 L2.size (by intro k hk; cases hk; exact Nat.le_refl _)
  have hv3 := hv2.grown c2 g3
  have HN3 := hidP (HN2.out.kept g3 (by intro k hk; cases hk; exact hq))
  have hq3 := c3.lt
  have HL3 := hidP L3
  have HV3 := hidP (And.intro hv3 c3)
  clear HN2 L2 g3 hv2 c2 g2 L3 c1
  go_wp2_with fail
  refine (cTied _ ao n cap w1.heap.size g c ms 7 kd w3 c3 hv3 hn HN3.out (by omega) hq).mono ?_
  rintro e w4 ⟨⟨gt, ct, ts, rfl, hrt, ht60⟩, k4, c4, g4⟩
  have I4 : Hid (DrT w3 w.heap.size ao n cap w1.heap.size w4 gt ct ts) := ⟨c4, k4, hrt, g4⟩
  clear c3 hv3 hrt k4 c4 g4
  have HVC : Hid (∀ W gt ct ts, DrT w3 w.heap.size ao n cap w1.heap.size W gt ct ts → CodeV W ao n) := fun W gt ct ts I => HV3.out.1.grown HV3.out.2 I.low
  have HEND : Hid (∀ (W : World) (gt ct : Nat) (ts : List Th) (a' : Option Addr) (ts' : List Th), DrT w3 w.heap.size ao n cap w1.heap.size W gt ct ts → TView W a' ts' → ts'.length ≤ 60 → MView W (some ⟨g, 0, none⟩) ms ∧ (MSmall ms ∧ ms.length ≤ c) ∧ TView W a' ts' ∧ ts'.length ≤ 60 ∧ Below w.heap.size w W) := fun W gt ct ts a' ts' I hv hl =>
    ⟨(HN3.out.kin I.kin).view, ⟨HN3.out.small (by omega), HN3.out.2.1⟩, hv, hl, HL3.out.grown I.low HL3.out.size (by intro k hk; cases hk; exact Nat.le_refl _)⟩
  go_wp2_with fail
  refine (cOnce _ ao n cap 3 _ I4.out.cur (HVC.out _ _ _ _ I4.out) hn (by omega) (by omega)).mono ?_
  rintro e w5 ⟨⟨x, rfl⟩, c5, g5⟩
  have I5 := hidP (I4.out.cursor hq hq3 c5 g5)
  clear I4 c5 g5
  cases x with
  | false =>
    go_wp2_with fail
    go_ret3
    exact ⟨g, c, ms, _, ct, ts, kd, rfl, HEND.out _ _ _ _ _ _ I5.out I5.out.row.view ht60⟩
  | true =>
    by_cases h0 : ts.length = 0
    · have h0b : ¬ ((0 : Int) < (ts.length : Int)) := by omega
      have H0 := hidP h0
      clear h0
      go_wp2_with fail
      go_ret3
      exact ⟨g, c, ms, _, ct, ts, kd, rfl, HEND.out _ _ _ _ _ _ I5.out I5.out.row.view ht60⟩
    · have h0b : (0 : Int) < (ts.length : Int) := by omega
      go_wp2_with fail
      refine (cBelow _ ao n cap ts.length _ I5.out.cur (HVC.out _ _ _ _ I5.out) hn (by omega) (by omega)).mono ?_
      rintro e w6 ⟨⟨y, y0, y1, rfl⟩, c6, g6⟩
      obtain ⟨yn, rfl⟩ := Int.eq_ofNat_of_zero_le y0
      have hyn : yn < ts.length := by omega
      have I6 := hidP (I5.out.cursor hq hq3 c6 g6)
      clear I5 c6 g6
      go_wp2_with fail
      refine (cBelow _ ao n cap 4 _ I6.out.cur (HVC.out _ _ _ _ I6.out) hn (by omega) (by omega)).mono ?_
      rintro e w7 ⟨⟨z, z0, z1, rfl⟩, c7, g7⟩
      have I7 := hidP (I6.out.cursor hq hq3 c7 g7)
      clear I6 c7 g7
      have hcap := I7.out.row.cap
      have hz4 : z = 0 ∨ z = 1 ∨ z = 2 ∨ z = 3 := by omega
      rcases hz4 with rfl | rfl | rfl | rfl
      · go_wp2_with fail
        refine (cBelow _ ao n cap 9 _ I7.out.cur (HVC.out _ _ _ _ I7.out) hn (by omega) (by omega)).mono ?_
        rintro e w8 ⟨⟨v, v0, v1, rfl⟩, c8, g8⟩
        have I8 := hidP (I7.out.cursor hq hq3 c8 g8)
        clear I7 c8 g8
        obtain ⟨e0, e1, e2⟩ := I8.out.row.seg yn hyn
        rw [Nat.zero_add] at e0
        have f0 := World.ownsRow.frozenAt I8.out.row (yn * 3)
        have I9 := hidP (I8.out.store hq3 (yn * 3) (.int .i64 v) (I8.out.row.set0 yn v hyn))
        clear e1 e2
        go_wp2_with fail
        go_ret3
        exact ⟨g, c, ms, _, ct, ts.set yn (v, (tnth ts yn).2), kd, by rw [List.length_set]; rfl, HEND.out _ _ _ _ _ _ I9.out I9.out.row.view (by rw [List.length_set]; exact ht60)⟩
      · obtain ⟨e0, e1, e2⟩ := I7.out.row.seg yn hyn
        rw [Nat.zero_add] at e2
        have f2 := World.ownsRow.frozenAt I7.out.row (yn * 3 + 2)
        have I9 := hidP (I7.out.store hq3 (yn * 3 + 2) (.int .i64 (wrap64 ((tnth ts yn).2.2 + 1))) (I7.out.row.set2 yn _ hyn))
        clear e0 e1
        go_wp2_with fail
        go_ret3
        exact ⟨g, c, ms, _, ct, ts.set yn ((tnth ts yn).1, (tnth ts yn).2.1, wrap64 ((tnth ts yn).2.2 + 1)), kd, by rw [List.length_set]; rfl, HEND.out _ _ _ _ _ _ I9.out I9.out.row.view (by rw [List.length_set]; exact ht60)⟩
      · have h1l : (1 : Int) ≤ (ts.length : Int) := by omega
        have h1c : (1 : Int) ≤ (ct : Int) := by omega
        have hlc : (ts.length : Int) ≤ (ct : Int) := by omega
        have hc0 : ¬ ct = 0 := by omega
        have hdl : (ts.drop 1).length = ts.length - 1 := by simp
        by_cases hc1 : ct = 1
        · subst hc1
          have hl1 : ts.length = 1 := by omega
          have HTV : Hid (∀ a' : Option Addr, TView w7 a' (ts.drop 1)) := fun a' => Or.inl (List.length_eq_zero_iff.1 (by omega))
          have HDL : Hid ((ts.drop 1).length = 0) := by show _ = _; omega
          have HL1 := hidP hl1
          go_wp2_with fail
          go_ret3
          exact ⟨g, c, ms, some ⟨gt, 0, none⟩, 0, ts.drop 1, kd, by rw [HDL.out]; rfl, HEND.out _ _ _ _ _ _ I7.out (HTV.out _) (by rw [HDL.out]; omega)⟩
        · have hc2 : ¬ ct - 1 = 0 := by omega
          have hc3 : 1 < ct := by omega
          have HTV : Hid (TView w7 (some ⟨gt, 3, none⟩) (ts.drop 1)) := by
            have h := I7.out.row.seg.drop 1
            exact Or.inr ⟨gt, 3, rfl, I7.out.row.lt.2, by simpa using h⟩
          have HDL := hidP hdl
          go_wp2_with fail
          go_ret3
          exact ⟨g, c, ms, some ⟨gt, 3, none⟩, ct - 1, ts.drop 1, kd, by rw [HDL.out]; rfl, HEND.out _ _ _ _ _ _ I7.out HTV.out (by rw [HDL.out]; omega)⟩
      · have hl1 : IntKind.i64.wrap ((ts.length : Int) - 1) = ((ts.length - 1 : Nat) : Int) := by rw [IntWalk.i64_in _ ⟨by omega, by omega⟩]; omega
        have hl2 : ((ts.length - 1 : Nat) : Int) < (ts.length : Int) := by omega
        have hl3 : (0 : Int) ≤ ((ts.length - 1 : Nat) : Int) := by omega
        obtain ⟨d0, d1, d2⟩ := I7.out.row.seg (ts.length - 1) (by omega)
        have e0 : w7.cell? ⟨gt, 0, none⟩ = some (.int .i64 (tnth ts 0).1) := (I7.out.row.seg 0 (by omega)).1
        have e1 : w7.cell? ⟨gt, 1, none⟩ = some (.int .i64 (tnth ts 0).2.1) := (I7.out.row.seg 0 (by omega)).2.1
        have e2 : w7.cell? ⟨gt, 2, none⟩ = some (.int .i64 (tnth ts 0).2.2) := (I7.out.row.seg 0 (by omega)).2.2
        rw [Nat.zero_add] at d0 d1 d2
        have f0 := World.ownsRow.frozenAt I7.out.row 0
        have f1 := World.ownsRow.frozenAt I7.out.row 1
        have f2 := World.ownsRow.frozenAt I7.out.row 2
        have r0 := I7.out.row.set0 0 (tnth ts (ts.length - 1)).1 (by omega)
        have J0 := I7.out.store hq3 (0 * 3) _ r0
        have r1 := r0.set1 0 (tnth ts (ts.length - 1)).2.1 (by rw [List.length_set]; omega)
        have J1 := J0.store hq3 (0 * 3 + 1) _ r1
        have r2 := r1.set2 0 (tnth ts (ts.length - 1)).2.2 (by rw [List.length_set, List.length_set]; omega)
        have J2 := J1.store hq3 (0 * 3 + 2) _ r2
        obtain ⟨ts', hts', htl⟩ : ∃ ts', DrT w3 w.heap.size ao n cap w1.heap.size (((w7.setCell ⟨gt, 0, none⟩ (.int .i64 (tnth ts (ts.length - 1)).1)).setCell ⟨gt, 1, none⟩ (.int .i64 (tnth ts (ts.length - 1)).2.1)).setCell ⟨gt, 2, none⟩ (.int .i64 (tnth ts (ts.length - 1)).2.2)) gt ct ts' ∧ ts'.length = ts.length := ⟨_, J2, by simp⟩
        have I9 := hidP hts'
        have HTL := hidP htl
        clear r0 J0 r1 J1 r2 J2 hts' htl I7
        go_wp2_with fail
        go_ret3
        exact ⟨g, c, ms, _, ct, ts', kd, by rw [HTL.out]; rfl, HEND.out _ _ _ _ _ _ I9.out I9.out.row.view (by rw [HTL.out]; exact ht60)⟩

theorem DrT.vals {w : World} {q : Nat} {ao : Option Addr} {n cap base : Nat} {wr : World} {g c : Nat} {ts : List Th} (h : DrT w q ao n cap base wr g c ts) (hl : 0 < ts.length) : wr.cell? ⟨g, 2, none⟩ = some (.int .i64 (tnth ts 0).2.2) ∧ wr.frozen? ⟨g, 2, none⟩ = false :=
  ⟨(h.row.seg 0 hl).2.2, World.ownsRow.frozenAt h.row 2⟩

set_option maxRecDepth 100000 in
set_option maxHeartbeats 4000000 in
theorem cDrawTotal (ao : Option Addr) (n cap : Nat) (w : World) (hv : CodeV w ao n) (hn : n ≤ 4096) :
    Calls Try.prog 14 #[.slice ao n cap] w fun e w' => ∃ g c ts, e = .returned (.slice (some ⟨g, 0, none⟩) ts.length c) ∧ TView w' (some ⟨g, 0, none⟩) ts ∧ ts.length ≤ 60 ∧ Below w.heap.size w w' := by
  go_enter Try.func14, Try.ntmps14
  go_wp2_with fail
  refine (cNew ao n cap _ hv hn).mono ?_
  rintro e w1 ⟨rfl, c1, L1⟩
  have hv1 := hv.below (Nat.le_refl _) L1
  go_wp2_with fail
  refine (cMarks _ ao n cap 7 _ c1 hv1 hn (by omega) (by omega)).mono ?_
  rintro e w2 ⟨⟨g, c, ds, rfl, hnew⟩, c2, g2⟩
  have L2 : Below w.heap.size w w2 := L1.grown g2 L1.size (by intro k hk; cases hk; exact Nat.le_refl _)
  have hv2 := hv1.grown c1 g2
  have hq := c1.lt
  have hq2 := c2.lt
  have hdl := dMarks_length ds
  have HN2 := hidP hnew.any
  have HL2 := hidP L2
  have HV2 := hidP (And.intro hv2 c2)
  have HT := hidP (cTied _ ao n cap w1.heap.size g c (dMarks ds) 7 2 w2 c2 hv2 hn HN2.out (by omega) hq)
  rw [hdl] at HT
  clear hnew L1 hv1 c1 g2 L2 c2 hv2
  go_wp2_with fail
  refine HT.out.mono ?_
  rintro e w4 ⟨⟨gt, ct, ts, rfl, hrt, ht60⟩, k4, c4, g4⟩
  have I4 : Hid (DrT w2 w.heap.size ao n cap w1.heap.size w4 gt ct ts) := ⟨c4, k4, hrt, g4⟩
  clear HT hrt k4 c4 g4
  have HVC : Hid (∀ W gt ct ts, DrT w2 w.heap.size ao n cap w1.heap.size W gt ct ts → CodeV W ao n) := fun W gt ct ts I => HV2.out.1.grown HV2.out.2 I.low
  have HEND : Hid (∀ (W : World) (gt ct : Nat) (ts : List Th), DrT w2 w.heap.size ao n cap w1.heap.size W gt ct ts → TView W (some ⟨gt, 0, none⟩) ts ∧ Below w.heap.size w W) := fun W gt ct ts I =>
    ⟨I.row.view, HL2.out.grown I.low HL2.out.size (by intro k hk; cases hk; exact Nat.le_refl _)⟩
  go_wp2_with fail
  refine (cOnce _ ao n cap 10 _ I4.out.cur (HVC.out _ _ _ _ I4.out) hn (by omega) (by omega)).mono ?_
  rintro e w5 ⟨⟨x, rfl⟩, c5, g5⟩
  have I5 := hidP (I4.out.cursor hq hq2 c5 g5)
  clear I4 c5 g5
  cases x with
  | false =>
    go_wp2_with fail
    go_ret
    exact ⟨gt, ct, ts, rfl, (HEND.out _ _ _ _ I5.out).1, ht60, (HEND.out _ _ _ _ I5.out).2⟩
  | true =>
    by_cases h0 : ts.length = 0
    · have h0b : ¬ ((0 : Int) < (ts.length : Int)) := by omega
      have H0 := hidP h0
      clear h0
      go_wp2_with fail
      go_ret
      exact ⟨gt, ct, ts, rfl, (HEND.out _ _ _ _ I5.out).1, ht60, (HEND.out _ _ _ _ I5.out).2⟩
    · have h0b : (0 : Int) < (ts.length : Int) := by omega
      have I6 := hidP (I5.out.alloc (.cells #[.int .i64 (-1), .int .i64 1099511627776, .int .i64 1099511627777] 2))
      go_wp2_with fail
      refine (cBelow _ ao n cap 3 _ I6.out.cur (HVC.out _ _ _ _ I6.out) hn (by omega) (by omega)).mono ?_
      rintro e w7 ⟨⟨y, y0, y1, rfl⟩, c7, g7⟩
      have hlit : w7.heap[w5.heap.size]? = some (.cells #[.int .i64 (-1), .int .i64 1099511627776, .int .i64 1099511627777] 2) :=
        (g7.block _ (by simp) (by have := I5.out.low.size; simp; omega)).trans (heap_alloc_new w5 _)
      have I7 := hidP (I6.out.cursor hq hq2 c7 g7)
      clear I5 I6 c7 g7
      obtain ⟨e2, f2⟩ := I7.out.vals (by omega)
      have I8 : Hid (∀ v : Int, DrT w2 w.heap.size ao n cap w1.heap.size (w7.setCell ⟨gt, 2, none⟩ (.int .i64 v)) gt ct (ts.set 0 ((tnth ts 0).1, (tnth ts 0).2.1, v))) := fun v => I7.out.store hq2 (0 * 3 + 2) _ (I7.out.row.set2 0 v (by omega))
      have hy3 : y = 0 ∨ y = 1 ∨ y = 2 := by omega
      rcases hy3 with rfl | rfl | rfl
      · have hc : w7.cell? ⟨w5.heap.size, 0, none⟩ = some (.int .i64 (-1)) := by simp [World.cell?, hlit]
        clear hlit
        go_wp2_with fail
        go_ret
        exact ⟨gt, ct, _, by rw [List.length_set]; rfl, (HEND.out _ _ _ _ (I8.out (-1))).1, by rw [List.length_set]; exact ht60, (HEND.out _ _ _ _ (I8.out (-1))).2⟩
      · have hc : w7.cell? ⟨w5.heap.size, 1, none⟩ = some (.int .i64 1099511627776) := by simp [World.cell?, hlit]
        clear hlit
        go_wp2_with fail
        go_ret
        exact ⟨gt, ct, _, by rw [List.length_set]; rfl, (HEND.out _ _ _ _ (I8.out 1099511627776)).1, by rw [List.length_set]; exact ht60, (HEND.out _ _ _ _ (I8.out 1099511627776)).2⟩
      · have hc : w7.cell? ⟨w5.heap.size, 2, none⟩ = some (.int .i64 1099511627777) := by simp [World.cell?, hlit]
        clear hlit
        go_wp2_with fail
        go_ret
        exact ⟨gt, ct, _, by rw [List.length_set]; rfl, (HEND.out _ _ _ _ (I8.out 1099511627777)).1, by rw [List.length_set]; exact ht60, (HEND.out _ _ _ _ (I8.out 1099511627777)).2⟩

end Go.Proofs.Ytfbindjacmaeoaa
