/-
  The given l6Look: how many balls are looked at, and the least steps till then, in a block of two cells.
-/
import Derived.Test.YthddhblmnfjciaaVOkSZz
import Derived.Test.YthddhblmnfjciaaMathZz
import Derived.Test.YthddhblmnfjciaaKTallZz
import Derived.Test.YthddhblmnfjciaaKCellsZz
namespace Go.Proofs.Ythddhblmnfjciaa
open Go Go.RowKit

theorem Two.belowP {w w' : World} {P p : Nat} {u v : Value} {t : TypeId} (h : Two w p u v t) (hp : p < P) (hb : Below P w w') : Two w' p u v t := (hb.block p hp).trans h

set_option maxHeartbeats 400000 in
theorem sLook0 (ao qa : Option Addr) (n cap qn qc P : Nat) (w : World) :
    Calls Try.prog 97 #[.slice ao n cap, .int .i64 (-1), .slice qa qn qc, .pointer (some ⟨P, 0, none⟩)] w fun e w' => e = .returned (.tuple #[]) ∧ w' = w := by
  go_enter Try.func97, Try.ntmps97
  go_wp2
  exact bodyPost_ret (v := .tuple #[]) (by simp [results, Try.results97, go_sem]) rfl ⟨rfl, rfl⟩

set_option maxRecDepth 100000 in
set_option maxHeartbeats 4000000 in
theorem sLook6 (bl off cap : Nat) (ks : List Kn) (qa : Option Addr) (qc : Nat) (q : List Int) (P : Nat) (W0 : World) (hbl : bl < W0.heap.size) (hs : KSeg W0 bl off ks) (hat : ∀ i, (knth ks i).1.2.length ≤ 1048576) (hq : View W0 qa q) (hqn : q.length ≤ 1048576) (hP : W0.heap.size ≤ P) (t : Tr) :
    ∀ (p : Nat) (w : World) (b n : Int), TAt ks t p → t.all (fun _ x _ _ => x ≤ 8000) → Below P W0 w → Two w P (.int .i64 b) (.int .i64 n) 124 → -1 ≤ b → b ≤ 8000 → 0 ≤ n → n + t.size ≤ 1048576 →
    Calls Try.prog 97 #[.slice (some ⟨bl, off, none⟩) ks.length cap, .int .i64 (t.place p), .slice qa q.length qc, .pointer (some ⟨P, 0, none⟩)] w fun e w' => e = .returned (.tuple #[]) ∧ Two w' P (.int .i64 (lookB q t (b, n)).1) (.int .i64 (lookB q t (b, n)).2) 124 ∧ w.grownBy w' (some P) ∧ (-1 ≤ (lookB q t (b, n)).1 ∧ (lookB q t (b, n)).1 ≤ 8000) ∧ n ≤ (lookB q t (b, n)).2 ∧ (lookB q t (b, n)).2 ≤ n + t.size := by
  induction t with
  | leaf =>
    intro p w b n _ _ hw h2 hb1 hb2 hn0 _
    refine (sLook0 _ _ _ _ _ _ _ w).mono ?_
    rintro e w' ⟨rfl, rfl⟩
    exact ⟨rfl, h2, ⟨rfl, rfl, rfl, Nat.le_refl _, fun _ _ _ => rfl⟩, ⟨hb1, hb2⟩, Int.le_refl _, by simp [Tr.size, lookB]⟩
  | node m rad l r ihl ihr =>
    intro p w b n ht hrad hw h2 hb1 hb2 hn0 hns
    obtain ⟨hp, ⟨c0, ⟨ao, ca, c1, hv⟩, c2, c3, c4⟩, htl, htr⟩ := tat_at ht hs
    obtain ⟨hr0, hrl, hrr⟩ := hrad
    have hm : m.2.length ≤ 1048576 := by
      obtain ⟨_, hk, _, _⟩ := ht
      have e : knth ks p = (m, (rad : Int), l.place (p + 1), r.place (p + 1 + l.size)) := hk
      have := hat p
      rw [e] at this; exact this
    have hblP : bl < P := by omega
    have a0 := (hw.cell (p := ⟨bl, off + p * 5, none⟩) hblP).trans c0
    have a1 := (hw.cell (p := ⟨bl, off + p * 5 + 1, none⟩) hblP).trans c1
    have a2 := (hw.cell (p := ⟨bl, off + p * 5 + 2, none⟩) hblP).trans c2
    have a3 := (hw.cell (p := ⟨bl, off + p * 5 + 3, none⟩) hblP).trans c3
    have a4 := (hw.cell (p := ⟨bl, off + p * 5 + 4, none⟩) hblP).trans c4
    simp only at a0 a1 a2 a3 a4
    have hst := steps_le m.2 q
    have hwz := hw.size
    have hPl := h2.lt
    have HA := hidP ihl
    have HB := hidP ihr
    have HW := hidP hw
    have HTL := hidP (And.intro htl htr)
    have HRL := hidP (And.intro hrl hrr)
    have hpl : (0 : Int) ≤ (p : Int) := Int.natCast_nonneg _
    have hpi : (p : Int) < (ks.length : Int) := by omega
    have hsz : (Tr.node m rad l r).size = l.size + r.size + 1 := rfl
    rw [hsz] at hns ⊢
    show Calls Try.prog 97 #[.slice (some ⟨bl, off, none⟩) ks.length cap, .int .i64 (p : Int), .slice qa q.length qc, .pointer (some ⟨P, 0, none⟩)] w _
    generalize hx : l.place (p + 1) = x at *
    generalize hy : r.place (p + 1 + l.size) = y at *
    -- the ball's own block, then the count
    obtain ⟨W1, hW1⟩ : ∃ W1, W1 = (w.setCell ⟨P, 1, none⟩ (.int .i64 (n + 1))).alloc (.cells #[.int .i64 m.1, .slice ao m.2.length ca, .int .i64 rad, .int .i64 x, .int .i64 y] 107) := ⟨_, rfl⟩
    have hz1 : W1.heap.size = w.heap.size + 1 := by rw [hW1]; simp
    have T1 : Two W1 P (.int .i64 b) (.int .i64 (n + 1)) 124 := by rw [hW1]; exact (h2.set1 _).below (alloc_below _ _)
    have F1 : Five W1 w.heap.size (.int .i64 m.1) (.slice ao m.2.length ca) (.int .i64 rad) (.int .i64 x) (.int .i64 y) 107 := by
      rw [hW1]
      have := Five.new (w.setCell ⟨P, 1, none⟩ (.int .i64 (n + 1))) (.int .i64 m.1) (.slice ao m.2.length ca) (.int .i64 rad) (.int .i64 x) (.int .i64 y) 107
      rwa [setCell_size] at this
    have B1 : Below P W0 W1 := by rw [hW1]; exact (set_below hw (Nat.le_refl _) _).alloc (by simp; omega) _
    have G1 : w.grownBy W1 (some P) := by rw [hW1]; exact grown_then (grown_setCell w P 1 _) (alloc_below _ _)
    have hvm : View W1 ao m.2 := hv.below hP B1
    have hvq : View W1 qa q := hq.below hP B1
    have HST := hidP (sSteps ao qa ca qc m.2 q W1 hvm hvq hm hqn)
    have d0 := h2.c0
    have d1 := h2.c1
    have f0 := h2.frozen 0
    have f1 := h2.frozen 1
    have HT1 := hidP (And.intro T1 (And.intro F1 G1))
    obtain ⟨g0, g1, g2, g3, g4⟩ := F1.cells
    have t0 := T1.c0
    have t1 := T1.c1
    have hne : ¬ P = w.heap.size := by omega
    clear ihl ihr ht hs hw h2 hv hq htl htr hrl hrr c0 c1 c2 c3 c4 hvm hvq T1 F1 B1 G1
    generalize hd : stepsV m.2 q = d at *
    go_enter Try.func97, Try.ntmps97
    go_wp2_with fail
    rw [← hW1]
    clear hW1 a0 a1 a2 a3 a4 d0 d1 f0 f1 t0 t1 g0 g1 g2 g3 g4
    refine HST.out.mono ?_
    rintro e w2 ⟨rfl, n1, hw2⟩
    have HT2 : Hid (Two w2 P (.int .i64 b) (.int .i64 (n + 1)) 124 ∧ Five w2 w.heap.size (.int .i64 m.1) (.slice ao m.2.length ca) (.int .i64 rad) (.int .i64 x) (.int .i64 y) 107 ∧ w.grownBy w2 (some P)) := by
      rw [hw2]; exact ⟨HT1.out.1, HT1.out.2.1, ⟨HT1.out.2.2.os, HT1.out.2.2.tape, HT1.out.2.2.output, HT1.out.2.2.size, HT1.out.2.2.block⟩⟩
    clear hw2 HT1 HST
    obtain ⟨b1, hb1'⟩ : ∃ b1, b1 = leastV b d := ⟨_, rfl⟩
    have hbb : -1 ≤ b1 ∧ b1 ≤ 8000 := by rw [hb1']; unfold leastV; split <;> omega
    obtain ⟨u1, hu1⟩ : ∃ u : Int × Int, u = (if d - (rad : Int) ≤ b1 then lookB q l (b1, n + 1) else (b1, n + 1)) := ⟨_, rfl⟩
    have hrd : (rad : Int) ≤ 8000 := by omega
    have hrd0 : (0 : Int) ≤ (rad : Int) := Int.natCast_nonneg _
    have HVAL : Hid (lookB q (.node m rad l r) (b, n) = if (rad : Int) - d ≤ u1.1 then lookB q r u1 else u1) := by
      show lookB q (.node m rad l r) (b, n) = _
      simp only [lookB]
      rw [hd, ← hb1', ← hu1]
    have HB1 := hidP hb1'
    have HU1 := hidP hu1
    have HXY := hidP (And.intro hx hy)
    have hPX : P ≠ w.heap.size := hne
    have T := HT2.out.1
    have k0 := T.c0
    have f0 := T.frozen 0
    have HS : Hid (Two (w2.setCell ⟨P, 0, none⟩ (.int .i64 d)) P (.int .i64 d) (.int .i64 (n + 1)) 124 ∧ Five (w2.setCell ⟨P, 0, none⟩ (.int .i64 d)) w.heap.size (.int .i64 m.1) (.slice ao m.2.length ca) (.int .i64 rad) (.int .i64 x) (.int .i64 y) 107 ∧ w.grownBy (w2.setCell ⟨P, 0, none⟩ (.int .i64 d)) (some P)) :=
      ⟨T.set0 _, HT2.out.2.1.kept (grown_setCell w2 P 0 _) (fun e => by injection e with e; omega), grownK_trans HT2.out.2.2 (grown_setCell w2 P 0 _) (Or.inl rfl)⟩
    clear T hb1' hz1 hd hu1 hx hy hsz
    have hcase : b < 0 ∨ (¬ b < 0 ∧ d < b) ∨ (¬ b < 0 ∧ ¬ d < b) := by omega
    rcases hcase with h1 | ⟨h1, h2⟩ | ⟨h1, h2⟩
    · have h1b : decide (b < 0) = true := by simp [h1]
      have e : b1 = d := by rw [HB1.out]; unfold leastV; rw [if_pos (Or.inl h1)]
      rw [← e] at HS
      go_upto_region 6 with fail
      obtain ⟨w3, hw3⟩ : ∃ w3, w3 = w2.setCell ⟨P, 0, none⟩ (.int .i64 d) := ⟨_, rfl⟩
      rw [← hw3]
      have HT3 : Hid (Two w3 P (.int .i64 b1) (.int .i64 (n + 1)) 124 ∧ Five w3 w.heap.size (.int .i64 m.1) (.slice ao m.2.length ca) (.int .i64 rad) (.int .i64 x) (.int .i64 y) 107 ∧ w.grownBy w3 (some P)) := by rw [hw3, ← e]; exact HS.out
      clear HS HT2 hw3 k0 f0 h1b h1 e
      obtain ⟨T3, F3, G3⟩ := HT3.out
      have t0 := T3.c0
      obtain ⟨_, _, g2, g3, g4⟩ := F3.cells
      have hFl := F3.lt
      clear T3 F3 G3
      have hww : IntKind.i64.wrap (d - (rad : Int)) = d - (rad : Int) := IntWalk.i64_in _ ⟨by omega, by omega⟩
      have hww2 : IntKind.i64.wrap ((rad : Int) - d) = (rad : Int) - d := IntWalk.i64_in _ ⟨by omega, by omega⟩
      have HTWO : Hid (∀ w4, Two w4 P (.int .i64 u1.1) (.int .i64 u1.2) 124 → Five w4 w.heap.size (.int .i64 m.1) (.slice ao m.2.length ca) (.int .i64 rad) (.int .i64 x) (.int .i64 y) 107 → w.grownBy w4 (some P) → -1 ≤ u1.1 → u1.1 ≤ 8000 → 0 ≤ u1.2 → u1.2 ≤ n + 1 + l.size → Calls Try.prog 97 #[.slice (some ⟨bl, off, none⟩) ks.length cap, .int .i64 y, .slice qa q.length qc, .pointer (some ⟨P, 0, none⟩)] w4 fun e w' => e = .returned (.tuple #[]) ∧ Two w' P (.int .i64 (lookB q r u1).1) (.int .i64 (lookB q r u1).2) 124 ∧ w.grownBy w' (some P) ∧ (-1 ≤ (lookB q r u1).1 ∧ (lookB q r u1).1 ≤ 8000) ∧ u1.2 ≤ (lookB q r u1).2 ∧ (lookB q r u1).2 ≤ u1.2 + r.size) := fun w4 t4 f4 g4 h1 h2 h3 h4 => by
        have := HB.out (p + 1 + l.size) w4 u1.1 u1.2 HTL.out.2 HRL.out.2 (below_grown HW.out g4 (by omega) (Nat.le_refl _)) t4 h1 h2 h3 (by omega)
        rw [HXY.out.2] at this
        exact this.mono fun e w' ⟨he, h1, h2, h3⟩ => ⟨he, h1, grownK_trans g4 h2 (Or.inl rfl), h3⟩
      by_cases c1 : d - (rad : Int) ≤ b1
      · have c1b : decide (d - (rad : Int) ≤ b1) = true := by simp [c1]
        have eu : u1 = lookB q l (b1, n + 1) := by rw [HU1.out, if_pos c1]
        have HEU := hidP eu
        have HREC := hidP (fun kk => HA.out (p + 1) (w3.drewN kk) b1 (n + 1) HTL.out.1 HRL.out.1 (below_drewN (below_grown HW.out HT3.out.2.2 (by omega) (Nat.le_refl _)) kk) HT3.out.1 hbb.1 hbb.2 (by omega) (by omega))
        rw [HXY.out.1, ← eu] at HREC
        clear eu
        go_quiet (fail)
        go_wp2_with fail
        refine (HREC.out _).mono ?_
        rintro e w4 ⟨rfl, T4, G4, hb4, hn4, hn5⟩
        have HQ : Hid (Two w4 P (.int .i64 u1.1) (.int .i64 u1.2) 124 ∧ Five w4 w.heap.size (.int .i64 m.1) (.slice ao m.2.length ca) (.int .i64 rad) (.int .i64 x) (.int .i64 y) 107 ∧ w.grownBy w4 (some P) ∧ -1 ≤ u1.1 ∧ u1.1 ≤ 8000 ∧ n + 1 ≤ u1.2 ∧ u1.2 ≤ n + 1 + l.size) :=
          ⟨T4, HT3.out.2.1.kept (w := w3) ⟨G4.os, G4.tape, G4.output, G4.size, G4.block⟩ (fun e => by injection e with e; omega), grownK_trans (w1 := w3) HT3.out.2.2 ⟨G4.os, G4.tape, G4.output, G4.size, G4.block⟩ (Or.inl rfl), hb4.1, hb4.2, hn4, hn5⟩
        clear T4 G4 HREC t0 g2 g3 g4
        obtain ⟨T4, F4, G4, hb4, hb5, hn4, hn5⟩ := HQ.out
        have s0 := T4.c0
        obtain ⟨_, _, j2, j3, j4⟩ := F4.cells
        have hF4 := F4.lt
        have HR2 := hidP (fun kk => HTWO.out (w4.drewN kk) T4 F4 ⟨G4.os, G4.tape, G4.output, G4.size, G4.block⟩ hb4 hb5 (by omega) hn5)
        have hww3 : IntKind.i64.wrap ((rad : Int) - d) = (rad : Int) - d := IntWalk.i64_in _ ⟨by omega, by omega⟩
        clear T4 F4 G4 HTWO
        by_cases c2 : (rad : Int) - d ≤ u1.1
        · have c2b : decide ((rad : Int) - d ≤ u1.1) = true := by simp [c2]
          go_upto_region 8 with fail
          go_quiet (fail)
          go_wp2_with fail
          refine (HR2.out _).mono ?_
          rintro e w5 ⟨rfl, T5, G5, hb6, hn6, hn7⟩
          have HE := hidP (And.intro T5 (And.intro G5 (And.intro hb6 (And.intro hn6 hn7))))
          clear T5 G5
          go_wp2_with fail
          go_end0
          rw [HVAL.out, if_pos (by omega)]
          have hx1 := HE.out.2.2.2
          exact ⟨rfl, HE.out.1, HE.out.2.1, HE.out.2.2.1, by omega, by omega⟩
        · have c2b : decide ((rad : Int) - d ≤ u1.1) = false := by simp [c2]
          go_upto_region 8 with fail
          go_quiet (fail)
          go_wp2_with fail
          go_end0
          rw [HVAL.out, if_neg (by omega)]
          have hG := HQ.out.2.2.1
          exact ⟨rfl, HQ.out.1, ⟨hG.os, hG.tape, hG.output, hG.size, hG.block⟩, ⟨hb4, hb5⟩, by omega, by omega⟩
      · have c1b : decide (d - (rad : Int) ≤ b1) = false := by simp [c1]
        have eu : u1 = (b1, n + 1) := by rw [HU1.out, if_neg c1]
        have HQ : Hid (Two w3 P (.int .i64 u1.1) (.int .i64 u1.2) 124 ∧ Five w3 w.heap.size (.int .i64 m.1) (.slice ao m.2.length ca) (.int .i64 rad) (.int .i64 x) (.int .i64 y) 107 ∧ w.grownBy w3 (some P) ∧ -1 ≤ u1.1 ∧ u1.1 ≤ 8000 ∧ n + 1 ≤ u1.2 ∧ u1.2 ≤ n + 1 + l.size) := by
          rw [eu]
          exact ⟨HT3.out.1, HT3.out.2.1, HT3.out.2.2, hbb.1, hbb.2, Int.le_refl _, by show n + 1 ≤ n + 1 + (l.size : Int); omega⟩
        clear eu
        go_quiet (fail)
        obtain ⟨w4, hw4⟩ : ∃ w4, w4 = w3.drewN nq := ⟨_, rfl⟩
        rw [← hw4]
        replace HQ : Hid (Two w4 P (.int .i64 u1.1) (.int .i64 u1.2) 124 ∧ Five w4 w.heap.size (.int .i64 m.1) (.slice ao m.2.length ca) (.int .i64 rad) (.int .i64 x) (.int .i64 y) 107 ∧ w.grownBy w4 (some P) ∧ -1 ≤ u1.1 ∧ u1.1 ≤ 8000 ∧ n + 1 ≤ u1.2 ∧ u1.2 ≤ n + 1 + l.size) := by
          rw [hw4]
          exact ⟨HQ.out.1, HQ.out.2.1, ⟨HQ.out.2.2.1.os, HQ.out.2.2.1.tape, HQ.out.2.2.1.output, HQ.out.2.2.1.size, HQ.out.2.2.1.block⟩, HQ.out.2.2.2⟩
        clear hw4 t0 g2 g3 g4
        obtain ⟨T4, F4, G4, hb4, hb5, hn4, hn5⟩ := HQ.out
        have s0 := T4.c0
        obtain ⟨_, _, j2, j3, j4⟩ := F4.cells
        have hF4 := F4.lt
        have HR2 := hidP (fun kk => HTWO.out (w4.drewN kk) T4 F4 ⟨G4.os, G4.tape, G4.output, G4.size, G4.block⟩ hb4 hb5 (by omega) hn5)
        have hww3 : IntKind.i64.wrap ((rad : Int) - d) = (rad : Int) - d := IntWalk.i64_in _ ⟨by omega, by omega⟩
        clear T4 F4 G4 HTWO
        by_cases c2 : (rad : Int) - d ≤ u1.1
        · have c2b : decide ((rad : Int) - d ≤ u1.1) = true := by simp [c2]
          go_upto_region 8 with fail
          go_quiet (fail)
          go_wp2_with fail
          refine (HR2.out _).mono ?_
          rintro e w5 ⟨rfl, T5, G5, hb6, hn6, hn7⟩
          have HE := hidP (And.intro T5 (And.intro G5 (And.intro hb6 (And.intro hn6 hn7))))
          clear T5 G5
          go_wp2_with fail
          go_end0
          rw [HVAL.out, if_pos (by omega)]
          have hx1 := HE.out.2.2.2
          exact ⟨rfl, HE.out.1, HE.out.2.1, HE.out.2.2.1, by omega, by omega⟩
        · have c2b : decide ((rad : Int) - d ≤ u1.1) = false := by simp [c2]
          go_upto_region 8 with fail
          go_quiet (fail)
          go_wp2_with fail
          go_end0
          rw [HVAL.out, if_neg (by omega)]
          have hG := HQ.out.2.2.1
          exact ⟨rfl, HQ.out.1, ⟨hG.os, hG.tape, hG.output, hG.size, hG.block⟩, ⟨hb4, hb5⟩, by omega, by omega⟩
    · have h1b : decide (b < 0) = false := by simp [h1]
      have h2b : decide (d < b) = true := by simp [h2]
      have e : b1 = d := by rw [HB1.out]; unfold leastV; rw [if_pos (Or.inr h2)]
      rw [← e] at HS
      go_upto_region 6 with fail
      obtain ⟨w3, hw3⟩ : ∃ w3, w3 = w2.setCell ⟨P, 0, none⟩ (.int .i64 d) := ⟨_, rfl⟩
      rw [← hw3]
      have HT3 : Hid (Two w3 P (.int .i64 b1) (.int .i64 (n + 1)) 124 ∧ Five w3 w.heap.size (.int .i64 m.1) (.slice ao m.2.length ca) (.int .i64 rad) (.int .i64 x) (.int .i64 y) 107 ∧ w.grownBy w3 (some P)) := by rw [hw3, ← e]; exact HS.out
      clear HS HT2 hw3 k0 f0 h1b h1 h2 h2b e
      obtain ⟨T3, F3, G3⟩ := HT3.out
      have t0 := T3.c0
      obtain ⟨_, _, g2, g3, g4⟩ := F3.cells
      have hFl := F3.lt
      clear T3 F3 G3
      have hww : IntKind.i64.wrap (d - (rad : Int)) = d - (rad : Int) := IntWalk.i64_in _ ⟨by omega, by omega⟩
      have hww2 : IntKind.i64.wrap ((rad : Int) - d) = (rad : Int) - d := IntWalk.i64_in _ ⟨by omega, by omega⟩
      have HTWO : Hid (∀ w4, Two w4 P (.int .i64 u1.1) (.int .i64 u1.2) 124 → Five w4 w.heap.size (.int .i64 m.1) (.slice ao m.2.length ca) (.int .i64 rad) (.int .i64 x) (.int .i64 y) 107 → w.grownBy w4 (some P) → -1 ≤ u1.1 → u1.1 ≤ 8000 → 0 ≤ u1.2 → u1.2 ≤ n + 1 + l.size → Calls Try.prog 97 #[.slice (some ⟨bl, off, none⟩) ks.length cap, .int .i64 y, .slice qa q.length qc, .pointer (some ⟨P, 0, none⟩)] w4 fun e w' => e = .returned (.tuple #[]) ∧ Two w' P (.int .i64 (lookB q r u1).1) (.int .i64 (lookB q r u1).2) 124 ∧ w.grownBy w' (some P) ∧ (-1 ≤ (lookB q r u1).1 ∧ (lookB q r u1).1 ≤ 8000) ∧ u1.2 ≤ (lookB q r u1).2 ∧ (lookB q r u1).2 ≤ u1.2 + r.size) := fun w4 t4 f4 g4 h1 h2 h3 h4 => by
        have := HB.out (p + 1 + l.size) w4 u1.1 u1.2 HTL.out.2 HRL.out.2 (below_grown HW.out g4 (by omega) (Nat.le_refl _)) t4 h1 h2 h3 (by omega)
        rw [HXY.out.2] at this
        exact this.mono fun e w' ⟨he, h1, h2, h3⟩ => ⟨he, h1, grownK_trans g4 h2 (Or.inl rfl), h3⟩
      by_cases c1 : d - (rad : Int) ≤ b1
      · have c1b : decide (d - (rad : Int) ≤ b1) = true := by simp [c1]
        have eu : u1 = lookB q l (b1, n + 1) := by rw [HU1.out, if_pos c1]
        have HEU := hidP eu
        have HREC := hidP (fun kk => HA.out (p + 1) (w3.drewN kk) b1 (n + 1) HTL.out.1 HRL.out.1 (below_drewN (below_grown HW.out HT3.out.2.2 (by omega) (Nat.le_refl _)) kk) HT3.out.1 hbb.1 hbb.2 (by omega) (by omega))
        rw [HXY.out.1, ← eu] at HREC
        clear eu
        go_quiet (fail)
        go_wp2_with fail
        refine (HREC.out _).mono ?_
        rintro e w4 ⟨rfl, T4, G4, hb4, hn4, hn5⟩
        have HQ : Hid (Two w4 P (.int .i64 u1.1) (.int .i64 u1.2) 124 ∧ Five w4 w.heap.size (.int .i64 m.1) (.slice ao m.2.length ca) (.int .i64 rad) (.int .i64 x) (.int .i64 y) 107 ∧ w.grownBy w4 (some P) ∧ -1 ≤ u1.1 ∧ u1.1 ≤ 8000 ∧ n + 1 ≤ u1.2 ∧ u1.2 ≤ n + 1 + l.size) :=
          ⟨T4, HT3.out.2.1.kept (w := w3) ⟨G4.os, G4.tape, G4.output, G4.size, G4.block⟩ (fun e => by injection e with e; omega), grownK_trans (w1 := w3) HT3.out.2.2 ⟨G4.os, G4.tape, G4.output, G4.size, G4.block⟩ (Or.inl rfl), hb4.1, hb4.2, hn4, hn5⟩
        clear T4 G4 HREC t0 g2 g3 g4
        obtain ⟨T4, F4, G4, hb4, hb5, hn4, hn5⟩ := HQ.out
        have s0 := T4.c0
        obtain ⟨_, _, j2, j3, j4⟩ := F4.cells
        have hF4 := F4.lt
        have HR2 := hidP (fun kk => HTWO.out (w4.drewN kk) T4 F4 ⟨G4.os, G4.tape, G4.output, G4.size, G4.block⟩ hb4 hb5 (by omega) hn5)
        have hww3 : IntKind.i64.wrap ((rad : Int) - d) = (rad : Int) - d := IntWalk.i64_in _ ⟨by omega, by omega⟩
        clear T4 F4 G4 HTWO
        by_cases c2 : (rad : Int) - d ≤ u1.1
        · have c2b : decide ((rad : Int) - d ≤ u1.1) = true := by simp [c2]
          go_upto_region 8 with fail
          go_quiet (fail)
          go_wp2_with fail
          refine (HR2.out _).mono ?_
          rintro e w5 ⟨rfl, T5, G5, hb6, hn6, hn7⟩
          have HE := hidP (And.intro T5 (And.intro G5 (And.intro hb6 (And.intro hn6 hn7))))
          clear T5 G5
          go_wp2_with fail
          go_end0
          rw [HVAL.out, if_pos (by omega)]
          have hx1 := HE.out.2.2.2
          exact ⟨rfl, HE.out.1, HE.out.2.1, HE.out.2.2.1, by omega, by omega⟩
        · have c2b : decide ((rad : Int) - d ≤ u1.1) = false := by simp [c2]
          go_upto_region 8 with fail
          go_quiet (fail)
          go_wp2_with fail
          go_end0
          rw [HVAL.out, if_neg (by omega)]
          have hG := HQ.out.2.2.1
          exact ⟨rfl, HQ.out.1, ⟨hG.os, hG.tape, hG.output, hG.size, hG.block⟩, ⟨hb4, hb5⟩, by omega, by omega⟩
      · have c1b : decide (d - (rad : Int) ≤ b1) = false := by simp [c1]
        have eu : u1 = (b1, n + 1) := by rw [HU1.out, if_neg c1]
        have HQ : Hid (Two w3 P (.int .i64 u1.1) (.int .i64 u1.2) 124 ∧ Five w3 w.heap.size (.int .i64 m.1) (.slice ao m.2.length ca) (.int .i64 rad) (.int .i64 x) (.int .i64 y) 107 ∧ w.grownBy w3 (some P) ∧ -1 ≤ u1.1 ∧ u1.1 ≤ 8000 ∧ n + 1 ≤ u1.2 ∧ u1.2 ≤ n + 1 + l.size) := by
          rw [eu]
          exact ⟨HT3.out.1, HT3.out.2.1, HT3.out.2.2, hbb.1, hbb.2, Int.le_refl _, by show n + 1 ≤ n + 1 + (l.size : Int); omega⟩
        clear eu
        go_quiet (fail)
        obtain ⟨w4, hw4⟩ : ∃ w4, w4 = w3.drewN nq := ⟨_, rfl⟩
        rw [← hw4]
        replace HQ : Hid (Two w4 P (.int .i64 u1.1) (.int .i64 u1.2) 124 ∧ Five w4 w.heap.size (.int .i64 m.1) (.slice ao m.2.length ca) (.int .i64 rad) (.int .i64 x) (.int .i64 y) 107 ∧ w.grownBy w4 (some P) ∧ -1 ≤ u1.1 ∧ u1.1 ≤ 8000 ∧ n + 1 ≤ u1.2 ∧ u1.2 ≤ n + 1 + l.size) := by
          rw [hw4]
          exact ⟨HQ.out.1, HQ.out.2.1, ⟨HQ.out.2.2.1.os, HQ.out.2.2.1.tape, HQ.out.2.2.1.output, HQ.out.2.2.1.size, HQ.out.2.2.1.block⟩, HQ.out.2.2.2⟩
        clear hw4 t0 g2 g3 g4
        obtain ⟨T4, F4, G4, hb4, hb5, hn4, hn5⟩ := HQ.out
        have s0 := T4.c0
        obtain ⟨_, _, j2, j3, j4⟩ := F4.cells
        have hF4 := F4.lt
        have HR2 := hidP (fun kk => HTWO.out (w4.drewN kk) T4 F4 ⟨G4.os, G4.tape, G4.output, G4.size, G4.block⟩ hb4 hb5 (by omega) hn5)
        have hww3 : IntKind.i64.wrap ((rad : Int) - d) = (rad : Int) - d := IntWalk.i64_in _ ⟨by omega, by omega⟩
        clear T4 F4 G4 HTWO
        by_cases c2 : (rad : Int) - d ≤ u1.1
        · have c2b : decide ((rad : Int) - d ≤ u1.1) = true := by simp [c2]
          go_upto_region 8 with fail
          go_quiet (fail)
          go_wp2_with fail
          refine (HR2.out _).mono ?_
          rintro e w5 ⟨rfl, T5, G5, hb6, hn6, hn7⟩
          have HE := hidP (And.intro T5 (And.intro G5 (And.intro hb6 (And.intro hn6 hn7))))
          clear T5 G5
          go_wp2_with fail
          go_end0
          rw [HVAL.out, if_pos (by omega)]
          have hx1 := HE.out.2.2.2
          exact ⟨rfl, HE.out.1, HE.out.2.1, HE.out.2.2.1, by omega, by omega⟩
        · have c2b : decide ((rad : Int) - d ≤ u1.1) = false := by simp [c2]
          go_upto_region 8 with fail
          go_quiet (fail)
          go_wp2_with fail
          go_end0
          rw [HVAL.out, if_neg (by omega)]
          have hG := HQ.out.2.2.1
          exact ⟨rfl, HQ.out.1, ⟨hG.os, hG.tape, hG.output, hG.size, hG.block⟩, ⟨hb4, hb5⟩, by omega, by omega⟩
    · have h1b : decide (b < 0) = false := by simp [h1]
      have h2b : decide (d < b) = false := by simp [h2]
      have e : b1 = b := by rw [HB1.out]; unfold leastV; rw [if_neg (by omega)]
      go_upto_region 6 with fail
      obtain ⟨w3, hw3⟩ : ∃ w3, w3 = w2 := ⟨w2, rfl⟩
      rw [← hw3]
      have HT3 : Hid (Two w3 P (.int .i64 b1) (.int .i64 (n + 1)) 124 ∧ Five w3 w.heap.size (.int .i64 m.1) (.slice ao m.2.length ca) (.int .i64 rad) (.int .i64 x) (.int .i64 y) 107 ∧ w.grownBy w3 (some P)) := by rw [hw3, e]; exact HT2.out
      clear HS HT2 hw3 k0 f0 h1b h1 h2 h2b e
      obtain ⟨T3, F3, G3⟩ := HT3.out
      have t0 := T3.c0
      obtain ⟨_, _, g2, g3, g4⟩ := F3.cells
      have hFl := F3.lt
      clear T3 F3 G3
      have hww : IntKind.i64.wrap (d - (rad : Int)) = d - (rad : Int) := IntWalk.i64_in _ ⟨by omega, by omega⟩
      have hww2 : IntKind.i64.wrap ((rad : Int) - d) = (rad : Int) - d := IntWalk.i64_in _ ⟨by omega, by omega⟩
      have HTWO : Hid (∀ w4, Two w4 P (.int .i64 u1.1) (.int .i64 u1.2) 124 → Five w4 w.heap.size (.int .i64 m.1) (.slice ao m.2.length ca) (.int .i64 rad) (.int .i64 x) (.int .i64 y) 107 → w.grownBy w4 (some P) → -1 ≤ u1.1 → u1.1 ≤ 8000 → 0 ≤ u1.2 → u1.2 ≤ n + 1 + l.size → Calls Try.prog 97 #[.slice (some ⟨bl, off, none⟩) ks.length cap, .int .i64 y, .slice qa q.length qc, .pointer (some ⟨P, 0, none⟩)] w4 fun e w' => e = .returned (.tuple #[]) ∧ Two w' P (.int .i64 (lookB q r u1).1) (.int .i64 (lookB q r u1).2) 124 ∧ w.grownBy w' (some P) ∧ (-1 ≤ (lookB q r u1).1 ∧ (lookB q r u1).1 ≤ 8000) ∧ u1.2 ≤ (lookB q r u1).2 ∧ (lookB q r u1).2 ≤ u1.2 + r.size) := fun w4 t4 f4 g4 h1 h2 h3 h4 => by
        have := HB.out (p + 1 + l.size) w4 u1.1 u1.2 HTL.out.2 HRL.out.2 (below_grown HW.out g4 (by omega) (Nat.le_refl _)) t4 h1 h2 h3 (by omega)
        rw [HXY.out.2] at this
        exact this.mono fun e w' ⟨he, h1, h2, h3⟩ => ⟨he, h1, grownK_trans g4 h2 (Or.inl rfl), h3⟩
      by_cases c1 : d - (rad : Int) ≤ b1
      · have c1b : decide (d - (rad : Int) ≤ b1) = true := by simp [c1]
        have eu : u1 = lookB q l (b1, n + 1) := by rw [HU1.out, if_pos c1]
        have HEU := hidP eu
        have HREC := hidP (fun kk => HA.out (p + 1) (w3.drewN kk) b1 (n + 1) HTL.out.1 HRL.out.1 (below_drewN (below_grown HW.out HT3.out.2.2 (by omega) (Nat.le_refl _)) kk) HT3.out.1 hbb.1 hbb.2 (by omega) (by omega))
        rw [HXY.out.1, ← eu] at HREC
        clear eu
        go_quiet (fail)
        go_wp2_with fail
        refine (HREC.out _).mono ?_
        rintro e w4 ⟨rfl, T4, G4, hb4, hn4, hn5⟩
        have HQ : Hid (Two w4 P (.int .i64 u1.1) (.int .i64 u1.2) 124 ∧ Five w4 w.heap.size (.int .i64 m.1) (.slice ao m.2.length ca) (.int .i64 rad) (.int .i64 x) (.int .i64 y) 107 ∧ w.grownBy w4 (some P) ∧ -1 ≤ u1.1 ∧ u1.1 ≤ 8000 ∧ n + 1 ≤ u1.2 ∧ u1.2 ≤ n + 1 + l.size) :=
          ⟨T4, HT3.out.2.1.kept (w := w3) ⟨G4.os, G4.tape, G4.output, G4.size, G4.block⟩ (fun e => by injection e with e; omega), grownK_trans (w1 := w3) HT3.out.2.2 ⟨G4.os, G4.tape, G4.output, G4.size, G4.block⟩ (Or.inl rfl), hb4.1, hb4.2, hn4, hn5⟩
        clear T4 G4 HREC t0 g2 g3 g4
        obtain ⟨T4, F4, G4, hb4, hb5, hn4, hn5⟩ := HQ.out
        have s0 := T4.c0
        obtain ⟨_, _, j2, j3, j4⟩ := F4.cells
        have hF4 := F4.lt
        have HR2 := hidP (fun kk => HTWO.out (w4.drewN kk) T4 F4 ⟨G4.os, G4.tape, G4.output, G4.size, G4.block⟩ hb4 hb5 (by omega) hn5)
        have hww3 : IntKind.i64.wrap ((rad : Int) - d) = (rad : Int) - d := IntWalk.i64_in _ ⟨by omega, by omega⟩
        clear T4 F4 G4 HTWO
        by_cases c2 : (rad : Int) - d ≤ u1.1
        · have c2b : decide ((rad : Int) - d ≤ u1.1) = true := by simp [c2]
          go_upto_region 8 with fail
          go_quiet (fail)
          go_wp2_with fail
          refine (HR2.out _).mono ?_
          rintro e w5 ⟨rfl, T5, G5, hb6, hn6, hn7⟩
          have HE := hidP (And.intro T5 (And.intro G5 (And.intro hb6 (And.intro hn6 hn7))))
          clear T5 G5
          go_wp2_with fail
          go_end0
          rw [HVAL.out, if_pos (by omega)]
          have hx1 := HE.out.2.2.2
          exact ⟨rfl, HE.out.1, HE.out.2.1, HE.out.2.2.1, by omega, by omega⟩
        · have c2b : decide ((rad : Int) - d ≤ u1.1) = false := by simp [c2]
          go_upto_region 8 with fail
          go_quiet (fail)
          go_wp2_with fail
          go_end0
          rw [HVAL.out, if_neg (by omega)]
          have hG := HQ.out.2.2.1
          exact ⟨rfl, HQ.out.1, ⟨hG.os, hG.tape, hG.output, hG.size, hG.block⟩, ⟨hb4, hb5⟩, by omega, by omega⟩
      · have c1b : decide (d - (rad : Int) ≤ b1) = false := by simp [c1]
        have eu : u1 = (b1, n + 1) := by rw [HU1.out, if_neg c1]
        have HQ : Hid (Two w3 P (.int .i64 u1.1) (.int .i64 u1.2) 124 ∧ Five w3 w.heap.size (.int .i64 m.1) (.slice ao m.2.length ca) (.int .i64 rad) (.int .i64 x) (.int .i64 y) 107 ∧ w.grownBy w3 (some P) ∧ -1 ≤ u1.1 ∧ u1.1 ≤ 8000 ∧ n + 1 ≤ u1.2 ∧ u1.2 ≤ n + 1 + l.size) := by
          rw [eu]
          exact ⟨HT3.out.1, HT3.out.2.1, HT3.out.2.2, hbb.1, hbb.2, Int.le_refl _, by show n + 1 ≤ n + 1 + (l.size : Int); omega⟩
        clear eu
        go_quiet (fail)
        obtain ⟨w4, hw4⟩ : ∃ w4, w4 = w3.drewN nq := ⟨_, rfl⟩
        rw [← hw4]
        replace HQ : Hid (Two w4 P (.int .i64 u1.1) (.int .i64 u1.2) 124 ∧ Five w4 w.heap.size (.int .i64 m.1) (.slice ao m.2.length ca) (.int .i64 rad) (.int .i64 x) (.int .i64 y) 107 ∧ w.grownBy w4 (some P) ∧ -1 ≤ u1.1 ∧ u1.1 ≤ 8000 ∧ n + 1 ≤ u1.2 ∧ u1.2 ≤ n + 1 + l.size) := by
          rw [hw4]
          exact ⟨HQ.out.1, HQ.out.2.1, ⟨HQ.out.2.2.1.os, HQ.out.2.2.1.tape, HQ.out.2.2.1.output, HQ.out.2.2.1.size, HQ.out.2.2.1.block⟩, HQ.out.2.2.2⟩
        clear hw4 t0 g2 g3 g4
        obtain ⟨T4, F4, G4, hb4, hb5, hn4, hn5⟩ := HQ.out
        have s0 := T4.c0
        obtain ⟨_, _, j2, j3, j4⟩ := F4.cells
        have hF4 := F4.lt
        have HR2 := hidP (fun kk => HTWO.out (w4.drewN kk) T4 F4 ⟨G4.os, G4.tape, G4.output, G4.size, G4.block⟩ hb4 hb5 (by omega) hn5)
        have hww3 : IntKind.i64.wrap ((rad : Int) - d) = (rad : Int) - d := IntWalk.i64_in _ ⟨by omega, by omega⟩
        clear T4 F4 G4 HTWO
        by_cases c2 : (rad : Int) - d ≤ u1.1
        · have c2b : decide ((rad : Int) - d ≤ u1.1) = true := by simp [c2]
          go_upto_region 8 with fail
          go_quiet (fail)
          go_wp2_with fail
          refine (HR2.out _).mono ?_
          rintro e w5 ⟨rfl, T5, G5, hb6, hn6, hn7⟩
          have HE := hidP (And.intro T5 (And.intro G5 (And.intro hb6 (And.intro hn6 hn7))))
          clear T5 G5
          go_wp2_with fail
          go_end0
          rw [HVAL.out, if_pos (by omega)]
          have hx1 := HE.out.2.2.2
          exact ⟨rfl, HE.out.1, HE.out.2.1, HE.out.2.2.1, by omega, by omega⟩
        · have c2b : decide ((rad : Int) - d ≤ u1.1) = false := by simp [c2]
          go_upto_region 8 with fail
          go_quiet (fail)
          go_wp2_with fail
          go_end0
          rw [HVAL.out, if_neg (by omega)]
          have hG := HQ.out.2.2.1
          exact ⟨rfl, HQ.out.1, ⟨hG.os, hG.tape, hG.output, hG.size, hG.block⟩, ⟨hb4, hb5⟩, by omega, by omega⟩

end Go.Proofs.Ythddhblmnfjciaa
