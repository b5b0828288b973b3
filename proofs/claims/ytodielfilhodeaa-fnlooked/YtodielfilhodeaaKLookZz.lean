/-
  The given l5Looked: how many knots are looked at, and the least till then, in a block of two cells.
-/
import Derived.Test.YtodielfilhodeaaKTallZz
import Derived.Test.YtodielfilhodeaaKCellsZz
namespace Go.Proofs.Ytodielfilhodeaa
open Go Go.RowKit

theorem far_le (a b : List Int) : -1 ≤ farV a b ∧ farV a b ≤ 16000000 := by
  unfold farV
  split
  · rename_i h
    obtain ⟨ha, hb, _⟩ := twoB_of h
    have h4 := okB_len ha
    have := sumTo_le (sqF a b) 0 4000000 (sqF_bd ha hb) a.length
    omega
  · omega

set_option maxHeartbeats 400000 in
theorem sLooked0 (ao qa : Option Addr) (n cap qn qc P : Nat) (w : World) :
    Calls Try.prog 82 #[.slice ao n cap, .int .i64 (-1), .slice qa qn qc, .pointer (some ⟨P, 0, none⟩)] w fun e w' => e = .returned (.tuple #[]) ∧ w' = w := by
  go_enter Try.func82, Try.ntmps82
  go_wp2
  exact bodyPost_ret (v := .tuple #[]) (by simp [results, Try.results82, go_sem]) rfl ⟨rfl, rfl⟩

set_option maxRecDepth 100000 in
set_option maxHeartbeats 4000000 in
theorem sLooked5 (bl off cap : Nat) (ks : List Kn) (qb qo qc : Nat) (q : List Int) (P : Nat) (W0 : World) (hbl : bl < W0.heap.size) (hs : KSeg W0 bl off ks) (hqb : qb < W0.heap.size) (hq : Seg W0 qb qo q) (hqn : q.length ≤ 1048576) (hP : W0.heap.size ≤ P) (t : Tr) :
    ∀ (p : Nat) (w : World) (b n : Int), TAt ks t p → t.all (fun m x _ _ => x < q.length ∧ twoB m.2 q = true) → Below P W0 w → Two w P (.int .i64 b) (.int .i64 n) 106 → -1 ≤ b → b ≤ 16000000 → 0 ≤ n → n + t.size ≤ 1048576 →
    Calls Try.prog 82 #[.slice (some ⟨bl, off, none⟩) ks.length cap, .int .i64 (t.place p), .slice (some ⟨qb, qo, none⟩) q.length qc, .pointer (some ⟨P, 0, none⟩)] w fun e w' => e = .returned (.tuple #[]) ∧ Two w' P (.int .i64 (lookT q t (b, n)).1) (.int .i64 (lookT q t (b, n)).2) 106 ∧ w.grownBy w' (some P) ∧ (-1 ≤ (lookT q t (b, n)).1 ∧ (lookT q t (b, n)).1 ≤ 16000000) ∧ n ≤ (lookT q t (b, n)).2 ∧ (lookT q t (b, n)).2 ≤ n + t.size := by
  induction t with
  | leaf =>
    intro p w b n _ _ hw h2 hb1 hb2 hn0 _
    refine (sLooked0 _ _ _ _ _ _ _ w).mono ?_
    rintro e w' ⟨rfl, rfl⟩
    exact ⟨rfl, h2, ⟨rfl, rfl, rfl, Nat.le_refl _, fun _ _ _ => rfl⟩, ⟨hb1, hb2⟩, Int.le_refl _, by simp [Tr.size, lookT]⟩
  | node m ax l r ihl ihr =>
    intro p w b n ht hrad hw h2 hb1 hb2 hn0 hns
    obtain ⟨hp, ⟨c0, ⟨ao, ca, c1, hv⟩, c2, c3, c4⟩, htl, htr⟩ := tat_at ht hs
    obtain ⟨⟨hax, htw⟩, hrl, hrr⟩ := hrad
    obtain ⟨hok1, hok2, hml⟩ := twoB_of htw
    have hvb := okB_at hok1 ax
    have hqv := okB_at hok2 ax
    simp only at c1 hv
    obtain ⟨mb, mo, rfl, hmb, hms⟩ := hv.seg (show 0 < m.2.length by omega)
    have hblP : bl < P := by omega
    have a0 := (hw.cell (p := ⟨bl, off + p * 5, none⟩) hblP).trans c0
    have a1 := (hw.cell (p := ⟨bl, off + p * 5 + 1, none⟩) hblP).trans c1
    have a2 := (hw.cell (p := ⟨bl, off + p * 5 + 2, none⟩) hblP).trans c2
    have a3 := (hw.cell (p := ⟨bl, off + p * 5 + 3, none⟩) hblP).trans c3
    have a4 := (hw.cell (p := ⟨bl, off + p * 5 + 4, none⟩) hblP).trans c4
    simp only at a0 a1 a2 a3 a4
    have hst := far_le m.2 q
    have hwz := hw.size
    have hPl := h2.lt
    have HA := hidP ihl
    have HB := hidP ihr
    have HW := hidP hw
    have HTL := hidP (And.intro htl htr)
    have HRL := hidP (And.intro hrl hrr)
    have HQC : Hid (∀ w', Below P W0 w' → w'.cell? ⟨qb, qo + ax, none⟩ = some (.int .i64 (nth q ax)) ∧ w'.cell? ⟨mb, mo + ax, none⟩ = some (.int .i64 (nth m.2 ax))) := fun w' h =>
      ⟨(h.cell (p := ⟨qb, qo + ax, none⟩) (by show qb < P; omega)).trans (hq ax hax), (h.cell (p := ⟨mb, mo + ax, none⟩) (by show mb < P; omega)).trans (hms ax (by omega))⟩
    have hpl : (0 : Int) ≤ (p : Int) := Int.natCast_nonneg _
    have hpi : (p : Int) < (ks.length : Int) := by omega
    have hax0 : (0 : Int) ≤ (ax : Int) := Int.natCast_nonneg _
    have hax1 : (ax : Int) < (q.length : Int) := by omega
    have hax2 : (ax : Int) < (m.2.length : Int) := by omega
    have hmn : m.2.length ≤ 1048576 := by omega
    clear hml
    have hsz : (Tr.node m ax l r).size = l.size + r.size + 1 := rfl
    rw [hsz] at hns ⊢
    show Calls Try.prog 82 #[.slice (some ⟨bl, off, none⟩) ks.length cap, .int .i64 (p : Int), .slice (some ⟨qb, qo, none⟩) q.length qc, .pointer (some ⟨P, 0, none⟩)] w _
    generalize hx : l.place (p + 1) = x at *
    generalize hy : r.place (p + 1 + l.size) = y at *
    obtain ⟨W1, hW1⟩ : ∃ W1, W1 = (w.setCell ⟨P, 1, none⟩ (.int .i64 (n + 1))).alloc (.cells #[.int .i64 m.1, .slice (some ⟨mb, mo, none⟩) m.2.length ca, .int .i64 ax, .int .i64 x, .int .i64 y] 45) := ⟨_, rfl⟩
    have hz1 : W1.heap.size = w.heap.size + 1 := by rw [hW1]; simp
    have T1 : Two W1 P (.int .i64 b) (.int .i64 (n + 1)) 106 := by rw [hW1]; exact (h2.set1 _).below (alloc_below _ _)
    have F1 : Five W1 w.heap.size (.int .i64 m.1) (.slice (some ⟨mb, mo, none⟩) m.2.length ca) (.int .i64 ax) (.int .i64 x) (.int .i64 y) 45 := by
      rw [hW1]
      have := Five.new (w.setCell ⟨P, 1, none⟩ (.int .i64 (n + 1))) (.int .i64 m.1) (.slice (some ⟨mb, mo, none⟩) m.2.length ca) (.int .i64 ax) (.int .i64 x) (.int .i64 y) 45
      rwa [setCell_size] at this
    have B1 : Below P W0 W1 := by rw [hW1]; exact (set_below hw (Nat.le_refl _) _).alloc (by simp; omega) _
    have G1 : w.grownBy W1 (some P) := by rw [hW1]; exact grown_then (grown_setCell w P 1 _) (alloc_below _ _)
    have hvm : View W1 (some ⟨mb, mo, none⟩) m.2 := hv.below hP B1
    have hvq : View W1 (some ⟨qb, qo, none⟩) q := View.below (Or.inr ⟨qb, qo, rfl, hqb, hq⟩) hP B1
    have HST := hidP (sFar (some ⟨mb, mo, none⟩) (some ⟨qb, qo, none⟩) ca qc m.2 q W1 hvm hvq hmn hqn)
    have d0 := h2.c0
    have d1 := h2.c1
    have f0 := h2.frozen 0
    have f1 := h2.frozen 1
    have HT1 := hidP (And.intro T1 (And.intro F1 G1))
    obtain ⟨g0, g1, g2, g3, g4⟩ := F1.cells
    have t0 := T1.c0
    have t1 := T1.c1
    have hne : ¬ P = w.heap.size := by omega
    clear ihl ihr ht hs hw h2 hv hq htl htr hrl hrr c0 c1 c2 c3 c4 hvm hvq T1 F1 B1 G1 hms
    generalize hd : farV m.2 q = d at *
    obtain ⟨vq, hvq⟩ : ∃ v, v = nth q ax := ⟨_, rfl⟩
    obtain ⟨vm, hvm⟩ : ∃ v, v = nth m.2 ax := ⟨_, rfl⟩
    obtain ⟨o, ho⟩ : ∃ o, o = vq - vm := ⟨_, rfl⟩
    rw [← hvq] at HQC hqv
    rw [← hvm] at HQC hvb
    have hob : -2000 ≤ o ∧ o ≤ 2000 := by omega
    have hsb := mul_bd (x := o) (y := o) (m := 2000) (by omega) (by omega) (by omega)
    obtain ⟨s, hsq⟩ : ∃ s, s = o * o := ⟨_, rfl⟩
    rw [← hsq] at hsb
    obtain ⟨b1, hb1'⟩ : ∃ b1, b1 = if b < 0 ∨ d < b then d else b := ⟨_, rfl⟩
    have hbb : -1 ≤ b1 ∧ b1 ≤ 16000000 := by rw [hb1']; split <;> omega
    have HVAL : Hid (lookT q (.node m ax l r) (b, n) = if 0 < o then (if s ≤ (lookT q r (b1, n + 1)).1 then lookT q l (lookT q r (b1, n + 1)) else lookT q r (b1, n + 1)) else (if s ≤ (lookT q l (b1, n + 1)).1 then lookT q r (lookT q l (b1, n + 1)) else lookT q l (b1, n + 1))) := by
      show lookT q (.node m ax l r) (b, n) = _
      simp only [lookT]
      rw [hd, ← hb1', ← hvq, ← hvm, ← ho, ← hsq]
    have HO := hidP ho.symm
    have HSQ := hidP hsq.symm
    have HB1 := hidP hb1'
    clear ho hsq hb1' hvq hvm hok1 hok2 htw
    go_enter Try.func82, Try.ntmps82
    go_wp2_with fail
    rw [← hW1]
    clear hW1 a0 a1 a2 a3 a4 d0 d1 f0 f1 t0 t1 g0 g1 g2 g3 g4
    refine HST.out.mono ?_
    rintro e w2 ⟨rfl, n1, hw2⟩
    have HT2 : Hid (Two w2 P (.int .i64 b) (.int .i64 (n + 1)) 106 ∧ Five w2 w.heap.size (.int .i64 m.1) (.slice (some ⟨mb, mo, none⟩) m.2.length ca) (.int .i64 ax) (.int .i64 x) (.int .i64 y) 45 ∧ w.grownBy w2 (some P)) := by
      rw [hw2]; exact ⟨HT1.out.1, HT1.out.2.1, ⟨HT1.out.2.2.os, HT1.out.2.2.tape, HT1.out.2.2.output, HT1.out.2.2.size, HT1.out.2.2.block⟩⟩
    clear hw2 HT1 HST
    have HXY := hidP (And.intro hx hy)
    have T := HT2.out.1
    have k0 := T.c0
    have f0 := T.frozen 0
    have HS : Hid (Two (w2.setCell ⟨P, 0, none⟩ (.int .i64 d)) P (.int .i64 d) (.int .i64 (n + 1)) 106 ∧ Five (w2.setCell ⟨P, 0, none⟩ (.int .i64 d)) w.heap.size (.int .i64 m.1) (.slice (some ⟨mb, mo, none⟩) m.2.length ca) (.int .i64 ax) (.int .i64 x) (.int .i64 y) 45 ∧ w.grownBy (w2.setCell ⟨P, 0, none⟩ (.int .i64 d)) (some P)) :=
      ⟨T.set0 _, HT2.out.2.1.kept (grown_setCell w2 P 0 _) (fun e => by injection e with e; omega), grownK_trans HT2.out.2.2 (grown_setCell w2 P 0 _) (Or.inl rfl)⟩
    clear T hz1 hd hx hy hsz
    have hcase : b < 0 ∨ (¬ b < 0 ∧ d < b) ∨ (¬ b < 0 ∧ ¬ d < b) := by omega
    rcases hcase with h1 | ⟨h1, h2⟩ | ⟨h1, h2⟩
    · have h1b : decide (b < 0) = true := by simp [h1]
      have e : b1 = d := by rw [HB1.out, if_pos (Or.inl h1)]
      go_upto_region 6 with fail
      obtain ⟨w3, hw3⟩ : ∃ w3, w3 = w2.setCell ⟨P, 0, none⟩ (.int .i64 d) := ⟨_, rfl⟩
      rw [← hw3]
      have HT3 : Hid (Two w3 P (.int .i64 b1) (.int .i64 (n + 1)) 106 ∧ Five w3 w.heap.size (.int .i64 m.1) (.slice (some ⟨mb, mo, none⟩) m.2.length ca) (.int .i64 ax) (.int .i64 x) (.int .i64 y) 45 ∧ w.grownBy w3 (some P)) := by rw [hw3, e]; exact HS.out
      clear HS HT2 hw3 k0 f0 h1b h1 e
      obtain ⟨T3, F3, G3⟩ := HT3.out
      obtain ⟨_, g1, g2, g3, g4⟩ := F3.cells
      have hFl := F3.lt
      obtain ⟨cq, cm⟩ := HQC.out w3 (below_grown HW.out G3 (by omega) (Nat.le_refl _))
      clear T3 F3 G3
      have hod := HO.out
      go_quiet (fail)
      clear cq cm
      by_cases ho : 0 < o
      · have hod2 : decide (0 < o) = true := by simp [ho]
        obtain ⟨u1, hu1⟩ : ∃ u : Int × Int, u = lookT q r (b1, n + 1) := ⟨_, rfl⟩
        have HV2 : Hid (lookT q (.node m ax l r) (b, n) = if s ≤ u1.1 then lookT q l u1 else u1) := by show lookT q (.node m ax l r) (b, n) = _; rw [HVAL.out, if_pos ho, ← hu1]
        have HREC := hidP (fun kk => HB.out (p + 1 + l.size) (w3.drewN kk) b1 (n + 1) HTL.out.2 HRL.out.2 (below_drewN (below_grown HW.out HT3.out.2.2 (by omega) (Nat.le_refl _)) kk) HT3.out.1 hbb.1 hbb.2 (by omega) (by omega))
        rw [HXY.out.2, ← hu1] at HREC
        clear hu1
        go_wp2_with fail
        refine (HREC.out _).mono ?_
        rintro e w4 ⟨rfl, T4, G4, hb4, hn4, hn5⟩
        have HQ : Hid (Two w4 P (.int .i64 u1.1) (.int .i64 u1.2) 106 ∧ w.grownBy w4 (some P)) :=
          ⟨T4, grownK_trans (w1 := w3) HT3.out.2.2 ⟨G4.os, G4.tape, G4.output, G4.size, G4.block⟩ (Or.inl rfl)⟩
        clear T4 G4 HREC g1 g2 g3 g4
        have s0 := HQ.out.1.c0
        have HR2 := hidP (HA.out (p + 1) w4 u1.1 u1.2 HTL.out.1 HRL.out.1 (below_grown HW.out HQ.out.2 (by omega) (Nat.le_refl _)) HQ.out.1 hb4.1 hb4.2 (by omega) (by omega))
        rw [HXY.out.1] at HR2
        have hsd := HSQ.out
        by_cases c2 : s ≤ u1.1
        · have c2b : decide (s ≤ u1.1) = true := by simp [c2]
          go_wp2_with fail
          refine HR2.out.mono ?_
          rintro e w5 ⟨rfl, T5, G5, hb6, hn6, hn7⟩
          have HE := hidP (And.intro T5 (And.intro (grownK_trans HQ.out.2 G5 (Or.inl rfl)) (And.intro hb6 (And.intro hn6 hn7))))
          clear T5 G5
          go_wp2_with fail
          go_end0
          rw [HV2.out, if_pos c2]
          have hx1 : u1.2 ≤ (lookT q l u1).2 ∧ (lookT q l u1).2 ≤ u1.2 + (l.size : Int) := HE.out.2.2.2
          exact ⟨rfl, HE.out.1, HE.out.2.1, HE.out.2.2.1, by omega, by omega⟩
        · have c2b : decide (s ≤ u1.1) = false := by simp [c2]
          go_wp2_with fail
          go_end0
          rw [HV2.out, if_neg (by omega)]
          exact ⟨rfl, HQ.out.1, HQ.out.2, hb4, by omega, by omega⟩
      · have hod2 : decide (0 < o) = false := by simp [ho]
        obtain ⟨u1, hu1⟩ : ∃ u : Int × Int, u = lookT q l (b1, n + 1) := ⟨_, rfl⟩
        have HV2 : Hid (lookT q (.node m ax l r) (b, n) = if s ≤ u1.1 then lookT q r u1 else u1) := by show lookT q (.node m ax l r) (b, n) = _; rw [HVAL.out, if_neg ho, ← hu1]
        have HREC := hidP (fun kk => HA.out (p + 1) (w3.drewN kk) b1 (n + 1) HTL.out.1 HRL.out.1 (below_drewN (below_grown HW.out HT3.out.2.2 (by omega) (Nat.le_refl _)) kk) HT3.out.1 hbb.1 hbb.2 (by omega) (by omega))
        rw [HXY.out.1, ← hu1] at HREC
        clear hu1
        go_wp2_with fail
        refine (HREC.out _).mono ?_
        rintro e w4 ⟨rfl, T4, G4, hb4, hn4, hn5⟩
        have HQ : Hid (Two w4 P (.int .i64 u1.1) (.int .i64 u1.2) 106 ∧ w.grownBy w4 (some P)) :=
          ⟨T4, grownK_trans (w1 := w3) HT3.out.2.2 ⟨G4.os, G4.tape, G4.output, G4.size, G4.block⟩ (Or.inl rfl)⟩
        clear T4 G4 HREC g1 g2 g3 g4
        have s0 := HQ.out.1.c0
        have HR2 := hidP (HB.out (p + 1 + l.size) w4 u1.1 u1.2 HTL.out.2 HRL.out.2 (below_grown HW.out HQ.out.2 (by omega) (Nat.le_refl _)) HQ.out.1 hb4.1 hb4.2 (by omega) (by omega))
        rw [HXY.out.2] at HR2
        have hsd := HSQ.out
        by_cases c2 : s ≤ u1.1
        · have c2b : decide (s ≤ u1.1) = true := by simp [c2]
          go_wp2_with fail
          refine HR2.out.mono ?_
          rintro e w5 ⟨rfl, T5, G5, hb6, hn6, hn7⟩
          have HE := hidP (And.intro T5 (And.intro (grownK_trans HQ.out.2 G5 (Or.inl rfl)) (And.intro hb6 (And.intro hn6 hn7))))
          clear T5 G5
          go_wp2_with fail
          go_end0
          rw [HV2.out, if_pos c2]
          have hx1 : u1.2 ≤ (lookT q r u1).2 ∧ (lookT q r u1).2 ≤ u1.2 + (r.size : Int) := HE.out.2.2.2
          exact ⟨rfl, HE.out.1, HE.out.2.1, HE.out.2.2.1, by omega, by omega⟩
        · have c2b : decide (s ≤ u1.1) = false := by simp [c2]
          go_wp2_with fail
          go_end0
          rw [HV2.out, if_neg (by omega)]
          exact ⟨rfl, HQ.out.1, HQ.out.2, hb4, by omega, by omega⟩
    · have h1b : decide (b < 0) = false := by simp [h1]
      have h2b : decide (d < b) = true := by simp [h2]
      have e : b1 = d := by rw [HB1.out, if_pos (Or.inr h2)]
      go_upto_region 6 with fail
      obtain ⟨w3, hw3⟩ : ∃ w3, w3 = w2.setCell ⟨P, 0, none⟩ (.int .i64 d) := ⟨_, rfl⟩
      rw [← hw3]
      have HT3 : Hid (Two w3 P (.int .i64 b1) (.int .i64 (n + 1)) 106 ∧ Five w3 w.heap.size (.int .i64 m.1) (.slice (some ⟨mb, mo, none⟩) m.2.length ca) (.int .i64 ax) (.int .i64 x) (.int .i64 y) 45 ∧ w.grownBy w3 (some P)) := by rw [hw3, e]; exact HS.out
      clear HS HT2 hw3 k0 f0 h1b h1 e h2 h2b
      obtain ⟨T3, F3, G3⟩ := HT3.out
      obtain ⟨_, g1, g2, g3, g4⟩ := F3.cells
      have hFl := F3.lt
      obtain ⟨cq, cm⟩ := HQC.out w3 (below_grown HW.out G3 (by omega) (Nat.le_refl _))
      clear T3 F3 G3
      have hod := HO.out
      go_quiet (fail)
      clear cq cm
      by_cases ho : 0 < o
      · have hod2 : decide (0 < o) = true := by simp [ho]
        obtain ⟨u1, hu1⟩ : ∃ u : Int × Int, u = lookT q r (b1, n + 1) := ⟨_, rfl⟩
        have HV2 : Hid (lookT q (.node m ax l r) (b, n) = if s ≤ u1.1 then lookT q l u1 else u1) := by show lookT q (.node m ax l r) (b, n) = _; rw [HVAL.out, if_pos ho, ← hu1]
        have HREC := hidP (fun kk => HB.out (p + 1 + l.size) (w3.drewN kk) b1 (n + 1) HTL.out.2 HRL.out.2 (below_drewN (below_grown HW.out HT3.out.2.2 (by omega) (Nat.le_refl _)) kk) HT3.out.1 hbb.1 hbb.2 (by omega) (by omega))
        rw [HXY.out.2, ← hu1] at HREC
        clear hu1
        go_wp2_with fail
        refine (HREC.out _).mono ?_
        rintro e w4 ⟨rfl, T4, G4, hb4, hn4, hn5⟩
        have HQ : Hid (Two w4 P (.int .i64 u1.1) (.int .i64 u1.2) 106 ∧ w.grownBy w4 (some P)) :=
          ⟨T4, grownK_trans (w1 := w3) HT3.out.2.2 ⟨G4.os, G4.tape, G4.output, G4.size, G4.block⟩ (Or.inl rfl)⟩
        clear T4 G4 HREC g1 g2 g3 g4
        have s0 := HQ.out.1.c0
        have HR2 := hidP (HA.out (p + 1) w4 u1.1 u1.2 HTL.out.1 HRL.out.1 (below_grown HW.out HQ.out.2 (by omega) (Nat.le_refl _)) HQ.out.1 hb4.1 hb4.2 (by omega) (by omega))
        rw [HXY.out.1] at HR2
        have hsd := HSQ.out
        by_cases c2 : s ≤ u1.1
        · have c2b : decide (s ≤ u1.1) = true := by simp [c2]
          go_wp2_with fail
          refine HR2.out.mono ?_
          rintro e w5 ⟨rfl, T5, G5, hb6, hn6, hn7⟩
          have HE := hidP (And.intro T5 (And.intro (grownK_trans HQ.out.2 G5 (Or.inl rfl)) (And.intro hb6 (And.intro hn6 hn7))))
          clear T5 G5
          go_wp2_with fail
          go_end0
          rw [HV2.out, if_pos c2]
          have hx1 : u1.2 ≤ (lookT q l u1).2 ∧ (lookT q l u1).2 ≤ u1.2 + (l.size : Int) := HE.out.2.2.2
          exact ⟨rfl, HE.out.1, HE.out.2.1, HE.out.2.2.1, by omega, by omega⟩
        · have c2b : decide (s ≤ u1.1) = false := by simp [c2]
          go_wp2_with fail
          go_end0
          rw [HV2.out, if_neg (by omega)]
          exact ⟨rfl, HQ.out.1, HQ.out.2, hb4, by omega, by omega⟩
      · have hod2 : decide (0 < o) = false := by simp [ho]
        obtain ⟨u1, hu1⟩ : ∃ u : Int × Int, u = lookT q l (b1, n + 1) := ⟨_, rfl⟩
        have HV2 : Hid (lookT q (.node m ax l r) (b, n) = if s ≤ u1.1 then lookT q r u1 else u1) := by show lookT q (.node m ax l r) (b, n) = _; rw [HVAL.out, if_neg ho, ← hu1]
        have HREC := hidP (fun kk => HA.out (p + 1) (w3.drewN kk) b1 (n + 1) HTL.out.1 HRL.out.1 (below_drewN (below_grown HW.out HT3.out.2.2 (by omega) (Nat.le_refl _)) kk) HT3.out.1 hbb.1 hbb.2 (by omega) (by omega))
        rw [HXY.out.1, ← hu1] at HREC
        clear hu1
        go_wp2_with fail
        refine (HREC.out _).mono ?_
        rintro e w4 ⟨rfl, T4, G4, hb4, hn4, hn5⟩
        have HQ : Hid (Two w4 P (.int .i64 u1.1) (.int .i64 u1.2) 106 ∧ w.grownBy w4 (some P)) :=
          ⟨T4, grownK_trans (w1 := w3) HT3.out.2.2 ⟨G4.os, G4.tape, G4.output, G4.size, G4.block⟩ (Or.inl rfl)⟩
        clear T4 G4 HREC g1 g2 g3 g4
        have s0 := HQ.out.1.c0
        have HR2 := hidP (HB.out (p + 1 + l.size) w4 u1.1 u1.2 HTL.out.2 HRL.out.2 (below_grown HW.out HQ.out.2 (by omega) (Nat.le_refl _)) HQ.out.1 hb4.1 hb4.2 (by omega) (by omega))
        rw [HXY.out.2] at HR2
        have hsd := HSQ.out
        by_cases c2 : s ≤ u1.1
        · have c2b : decide (s ≤ u1.1) = true := by simp [c2]
          go_wp2_with fail
          refine HR2.out.mono ?_
          rintro e w5 ⟨rfl, T5, G5, hb6, hn6, hn7⟩
          have HE := hidP (And.intro T5 (And.intro (grownK_trans HQ.out.2 G5 (Or.inl rfl)) (And.intro hb6 (And.intro hn6 hn7))))
          clear T5 G5
          go_wp2_with fail
          go_end0
          rw [HV2.out, if_pos c2]
          have hx1 : u1.2 ≤ (lookT q r u1).2 ∧ (lookT q r u1).2 ≤ u1.2 + (r.size : Int) := HE.out.2.2.2
          exact ⟨rfl, HE.out.1, HE.out.2.1, HE.out.2.2.1, by omega, by omega⟩
        · have c2b : decide (s ≤ u1.1) = false := by simp [c2]
          go_wp2_with fail
          go_end0
          rw [HV2.out, if_neg (by omega)]
          exact ⟨rfl, HQ.out.1, HQ.out.2, hb4, by omega, by omega⟩
    · have h1b : decide (b < 0) = false := by simp [h1]
      have h2b : decide (d < b) = false := by simp [h2]
      have e : b1 = b := by rw [HB1.out, if_neg (by omega)]
      go_upto_region 6 with fail
      obtain ⟨w3, hw3⟩ : ∃ w3, w3 = w2 := ⟨_, rfl⟩
      rw [← hw3]
      have HT3 : Hid (Two w3 P (.int .i64 b1) (.int .i64 (n + 1)) 106 ∧ Five w3 w.heap.size (.int .i64 m.1) (.slice (some ⟨mb, mo, none⟩) m.2.length ca) (.int .i64 ax) (.int .i64 x) (.int .i64 y) 45 ∧ w.grownBy w3 (some P)) := by rw [hw3, e]; exact HT2.out
      clear HS HT2 hw3 k0 f0 h1b h1 e h2 h2b
      obtain ⟨T3, F3, G3⟩ := HT3.out
      obtain ⟨_, g1, g2, g3, g4⟩ := F3.cells
      have hFl := F3.lt
      obtain ⟨cq, cm⟩ := HQC.out w3 (below_grown HW.out G3 (by omega) (Nat.le_refl _))
      clear T3 F3 G3
      have hod := HO.out
      go_quiet (fail)
      clear cq cm
      by_cases ho : 0 < o
      · have hod2 : decide (0 < o) = true := by simp [ho]
        obtain ⟨u1, hu1⟩ : ∃ u : Int × Int, u = lookT q r (b1, n + 1) := ⟨_, rfl⟩
        have HV2 : Hid (lookT q (.node m ax l r) (b, n) = if s ≤ u1.1 then lookT q l u1 else u1) := by show lookT q (.node m ax l r) (b, n) = _; rw [HVAL.out, if_pos ho, ← hu1]
        have HREC := hidP (fun kk => HB.out (p + 1 + l.size) (w3.drewN kk) b1 (n + 1) HTL.out.2 HRL.out.2 (below_drewN (below_grown HW.out HT3.out.2.2 (by omega) (Nat.le_refl _)) kk) HT3.out.1 hbb.1 hbb.2 (by omega) (by omega))
        rw [HXY.out.2, ← hu1] at HREC
        clear hu1
        go_wp2_with fail
        refine (HREC.out _).mono ?_
        rintro e w4 ⟨rfl, T4, G4, hb4, hn4, hn5⟩
        have HQ : Hid (Two w4 P (.int .i64 u1.1) (.int .i64 u1.2) 106 ∧ w.grownBy w4 (some P)) :=
          ⟨T4, grownK_trans (w1 := w3) HT3.out.2.2 ⟨G4.os, G4.tape, G4.output, G4.size, G4.block⟩ (Or.inl rfl)⟩
        clear T4 G4 HREC g1 g2 g3 g4
        have s0 := HQ.out.1.c0
        have HR2 := hidP (HA.out (p + 1) w4 u1.1 u1.2 HTL.out.1 HRL.out.1 (below_grown HW.out HQ.out.2 (by omega) (Nat.le_refl _)) HQ.out.1 hb4.1 hb4.2 (by omega) (by omega))
        rw [HXY.out.1] at HR2
        have hsd := HSQ.out
        by_cases c2 : s ≤ u1.1
        · have c2b : decide (s ≤ u1.1) = true := by simp [c2]
          go_wp2_with fail
          refine HR2.out.mono ?_
          rintro e w5 ⟨rfl, T5, G5, hb6, hn6, hn7⟩
          have HE := hidP (And.intro T5 (And.intro (grownK_trans HQ.out.2 G5 (Or.inl rfl)) (And.intro hb6 (And.intro hn6 hn7))))
          clear T5 G5
          go_wp2_with fail
          go_end0
          rw [HV2.out, if_pos c2]
          have hx1 : u1.2 ≤ (lookT q l u1).2 ∧ (lookT q l u1).2 ≤ u1.2 + (l.size : Int) := HE.out.2.2.2
          exact ⟨rfl, HE.out.1, HE.out.2.1, HE.out.2.2.1, by omega, by omega⟩
        · have c2b : decide (s ≤ u1.1) = false := by simp [c2]
          go_wp2_with fail
          go_end0
          rw [HV2.out, if_neg (by omega)]
          exact ⟨rfl, HQ.out.1, HQ.out.2, hb4, by omega, by omega⟩
      · have hod2 : decide (0 < o) = false := by simp [ho]
        obtain ⟨u1, hu1⟩ : ∃ u : Int × Int, u = lookT q l (b1, n + 1) := ⟨_, rfl⟩
        have HV2 : Hid (lookT q (.node m ax l r) (b, n) = if s ≤ u1.1 then lookT q r u1 else u1) := by show lookT q (.node m ax l r) (b, n) = _; rw [HVAL.out, if_neg ho, ← hu1]
        have HREC := hidP (fun kk => HA.out (p + 1) (w3.drewN kk) b1 (n + 1) HTL.out.1 HRL.out.1 (below_drewN (below_grown HW.out HT3.out.2.2 (by omega) (Nat.le_refl _)) kk) HT3.out.1 hbb.1 hbb.2 (by omega) (by omega))
        rw [HXY.out.1, ← hu1] at HREC
        clear hu1
        go_wp2_with fail
        refine (HREC.out _).mono ?_
        rintro e w4 ⟨rfl, T4, G4, hb4, hn4, hn5⟩
        have HQ : Hid (Two w4 P (.int .i64 u1.1) (.int .i64 u1.2) 106 ∧ w.grownBy w4 (some P)) :=
          ⟨T4, grownK_trans (w1 := w3) HT3.out.2.2 ⟨G4.os, G4.tape, G4.output, G4.size, G4.block⟩ (Or.inl rfl)⟩
        clear T4 G4 HREC g1 g2 g3 g4
        have s0 := HQ.out.1.c0
        have HR2 := hidP (HB.out (p + 1 + l.size) w4 u1.1 u1.2 HTL.out.2 HRL.out.2 (below_grown HW.out HQ.out.2 (by omega) (Nat.le_refl _)) HQ.out.1 hb4.1 hb4.2 (by omega) (by omega))
        rw [HXY.out.2] at HR2
        have hsd := HSQ.out
        by_cases c2 : s ≤ u1.1
        · have c2b : decide (s ≤ u1.1) = true := by simp [c2]
          go_wp2_with fail
          refine HR2.out.mono ?_
          rintro e w5 ⟨rfl, T5, G5, hb6, hn6, hn7⟩
          have HE := hidP (And.intro T5 (And.intro (grownK_trans HQ.out.2 G5 (Or.inl rfl)) (And.intro hb6 (And.intro hn6 hn7))))
          clear T5 G5
          go_wp2_with fail
          go_end0
          rw [HV2.out, if_pos c2]
          have hx1 : u1.2 ≤ (lookT q r u1).2 ∧ (lookT q r u1).2 ≤ u1.2 + (r.size : Int) := HE.out.2.2.2
          exact ⟨rfl, HE.out.1, HE.out.2.1, HE.out.2.2.1, by omega, by omega⟩
        · have c2b : decide (s ≤ u1.1) = false := by simp [c2]
          go_wp2_with fail
          go_end0
          rw [HV2.out, if_neg (by omega)]
          exact ⟨rfl, HQ.out.1, HQ.out.2, hb4, by omega, by omega⟩

end Go.Proofs.Ytodielfilhodeaa
