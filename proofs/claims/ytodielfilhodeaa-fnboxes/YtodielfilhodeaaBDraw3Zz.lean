/-
  The given DrawInside and DrawToBox.
-/
import Derived.Test.YtodielfilhodeaaBDraw2Zz
import Derived.Test.YtodielfilhodeaaMRowZz
namespace Go.Proofs.Ytodielfilhodeaa
open Go Go.RowKit

theorem Row.mono {base base' : Nat} {w : World} {g c : Nat} {xs : List Int} (h : Row base w g c xs) (hb : base' ≤ base) : Row base' w g c xs :=
  ⟨h.1, h.2.imp id fun ⟨g', cap, cur, e, hg, r⟩ => ⟨g', cap, cur, e, Nat.le_trans hb hg, r⟩⟩

set_option maxRecDepth 100000 in
set_option maxHeartbeats 2000000 in
theorem cInside (ao : Option Addr) (n cap : Nat) (w : World) (hv : CodeV w ao n) (hn : n ≤ 4096) :
    Calls Try.prog 55 #[.slice ao n cap] w fun e w' => ∃ v1 v2 g c L1 L2 xs base, e = .returned (.tuple #[.agg #[v1, v2], .slice (some ⟨g, 0, none⟩) xs.length c]) ∧ IOut base w' v1 L1 ∧ IOut base w' v2 L2 ∧ Row base w' g c xs ∧ L1.length ≤ 5 ∧ L2.length ≤ 5 ∧ xs.length ≤ 5 ∧ w.heap.size ≤ base ∧ Below w.heap.size w w' := by
  obtain ⟨W, hW⟩ : ∃ W, W = w.alloc (.cells #[.slice none 0 0, .slice none 0 0] 26) := ⟨_, rfl⟩
  have hB : Below w.heap.size w W := by rw [hW]; exact alloc_below w _
  have t0 : Two W w.heap.size (.slice none 0 0) (.slice none 0 0) 26 := by rw [hW]; exact Two.made0
  have HC := hidP (cNew ao n cap W (hv.below (Nat.le_refl _) hB) hn)
  have HB := hidP (And.intro hB t0)
  have HV0 := hidP hv
  clear hB t0 hv
  go_enter Try.func55, Try.ntmps55
  go_wp2_with fail
  rw [← hW]
  clear hW
  refine HC.out.mono ?_
  rintro e w1 ⟨rfl, c1, L1⟩
  have hq := c1.lt
  have hz1 := HB.out.2.lt
  have HP1 := hidP (And.intro c1 (And.intro (HB.out.2.below L1) (chain HB.out.1 L1)))
  have HF := hidP (cBelow W.heap.size ao n cap 3 w1 c1 (HV0.out.below (Nat.le_refl _) (chain HB.out.1 L1)) hn (by omega) (by omega))
  clear c1 L1 HC
  go_wp2_with fail
  refine HF.out.mono ?_
  rintro e w2 ⟨⟨y, hy0, hy1, rfl⟩, c2, g2⟩
  have hzW := HB.out.1.size
  have L2 : Below w.heap.size w w2 := HP1.out.2.2.grown g2 HP1.out.2.2.size (by intro k hk; cases hk; exact hzW)
  have HP2 := hidP (And.intro c2 (And.intro (HP1.out.2.1.grown g2 (by simp; omega)) L2))
  have HX := hidP (cBox W.heap.size ao n cap (1 + y) w2 c2 (HV0.out.below (Nat.le_refl _) L2) hn (by omega) (by omega))
  clear c2 g2 L2 HF HP1 hq
  go_wp2_with fail
  refine HX.out.mono ?_
  rintro e w3 ⟨⟨v1, v2, A1, A2, rfl, o1, o2, ap, hl1, hl2⟩, c3, g3⟩
  obtain ⟨a1, d1, rfl, _⟩ := o1.view
  obtain ⟨a2, d2, rfl, _⟩ := o2.view
  have hq2 := HP2.out.1.lt
  have hw2 := HP2.out.2.2.size
  have L3 : Below w.heap.size w w3 := HP2.out.2.2.grown g3 HP2.out.2.2.size (by intro k hk; cases hk; exact hzW)
  obtain ⟨W3, hW3⟩ : ∃ W3, W3 = w3.alloc (.cells #[(.slice a1 A1.length d1), (.slice a2 A2.length d2)] 26) := ⟨_, rfl⟩
  have hA3 : Below w3.heap.size w3 W3 := by rw [hW3]; exact alloc_below w3 _
  have t3 : Two W3 w3.heap.size (.slice a1 A1.length d1) (.slice a2 A2.length d2) 26 := by rw [hW3]; exact Two.made0
  have T1 := (HP2.out.2.1.grown g3 (by simp; omega)).below hA3
  have c4 : Cur W3 W.heap.size ao n cap := by rw [hW3]; exact c3.alloc _
  have L4 := chain L3 hA3
  have HP3 := hidP (And.intro c4 (And.intro T1 (And.intro L4 (And.intro t3 (And.intro (o1.below hA3) (o2.below hA3))))))
  have HX2 := hidP (cAnyI W.heap.size ao n cap (1 + y) W3.drew c4.drew (HV0.out.below (Nat.le_refl _) L4 : CodeV W3 ao n) hn (by omega) (by omega))
  have hz3 := t3.lt
  have h3q := c3.lt
  have h23 := g3.size
  have m0 := t3.c0
  have m1 := t3.c1
  clear o1 o2 ap c3 g3 hA3 t3 T1 c4 L4 HX HP2 L3
  go_wp2_with fail
  rw [← hW3]
  clear hW3
  refine wp_region_calm (S := fun X => X.cell? ⟨w3.heap.size, 0, none⟩ = some (.slice a1 A1.length d1) ∧ X.cell? ⟨w3.heap.size, 1, none⟩ = some (.slice a2 A2.length d2)) (fuel := 2)
    [0, 1, 2] _ rfl (by kernel_rfl) (by kernel_rfl) (by kernel_rfl) (by kernel_rfl) (by kernel_rfl) (by kernel_rfl) (by kernel_rfl) ⟨m0, m1⟩ (fun hS => ?_)
  iterate 3
    refine ⟨_, rfl, ?_⟩
    apply Exists.intro
    refine ⟨Or.inl ⟨by rfl, fun w' hw' => ?_⟩, ?_⟩
    · first
      | (go_simp; done)
      | (go_simp; with_reducible rfl)
    simp only [Act.put, List.setIfInBounds_toArray]
  refine calm_one 3 (by kernel_rfl) rfl (fun K hK => ?_)
  go_simp
  refine HX2.out.mono ?_
  rintro e w5 ⟨⟨g, c, xs, rfl, hl3, p1⟩, c5, g5'⟩
  have g5 : W3.grownBy w5 (some W.heap.size) := ⟨g5'.os, g5'.tape, g5'.output, g5'.size, g5'.block⟩
  obtain ⟨_, T1, L4, t3, o1, o2⟩ := HP3.out
  have t5 := t3.grown g5 (by simp; omega)
  have T15 := T1.grown g5 (by simp; omega)
  have o15 := o1.kept g5 (fun k hk => by have := o1.own k hk; simp; omega)
  have o25 := o2.kept g5 (fun k hk => by have := o2.own k hk; simp; omega)
  have L5 : Below w.heap.size w w5 := L4.grown g5 L4.size (by intro k hk; cases hk; exact hzW)
  refine hK.out _ _ ⟨t5.c0, t5.c1⟩ (fun _ => ?_)
  clear hK K
  have f0 := T15.frozen 0
  have f1 := T15.frozen 1
  have x0 := T15.c0
  have x1 := T15.c1
  have hT3 : w.heap.size ≠ w3.heap.size := by omega
  have s5 := t5.far (x := (.slice a1 A1.length d1)) (q := w.heap.size) (i := 0) hT3
  have s6 := s5.far (x := (.slice a2 A2.length d2)) (q := w.heap.size) (i := 1) hT3
  have T16 := (T15.set0 (.slice a1 A1.length d1)).set1 (.slice a2 A2.length d2)
  obtain ⟨W6, hW6⟩ : ∃ W6, W6 = (w5.setCell ⟨w.heap.size, 0, none⟩ (.slice a1 A1.length d1)).setCell ⟨w.heap.size, 1, none⟩ (.slice a2 A2.length d2) := ⟨_, rfl⟩
  rw [← hW6] at s6 T16
  have q1 : IOut w2.heap.size W6 (.slice a1 A1.length d1) A1 := by rw [hW6]; exact (o15.set (by omega)).set (by omega)
  have q2 : IOut w2.heap.size W6 (.slice a2 A2.length d2) A2 := by rw [hW6]; exact (o25.set (by omega)).set (by omega)
  have hgl : W3.heap.size ≤ g ∧ g < w5.heap.size := Row.lt2 p1
  have q3 : Row w2.heap.size W6 g c xs := by
    rw [hW6]
    exact World.ownsRow.kept (World.ownsRow.kept (Row.mono p1 (by show _ ≤ W3.heap.size; omega)) (grown_setCell w5 w.heap.size 0 (.slice a1 A1.length d1)) (Or.inr (by simp [Value.ownBlock]; omega))) (grown_setCell _ w.heap.size 1 (.slice a2 A2.length d2)) (Or.inr (by simp [Value.ownBlock]; omega))
  have L6 : Below w.heap.size w W6 := by rw [hW6]; exact set_below (set_below L5 (Nat.le_refl _) _) (Nat.le_refl _) _
  refine calm_one 4 (by kernel_rfl) rfl (fun K hK => ?_)
  go_simp
  rw [← hW6]
  refine hK.out _ _ ⟨s6.c0, s6.c1⟩ (fun _ => ?_)
  clear hK K hW6
  refine wpAnyH_done (by kernel_rfl) ?_ _
  simp only [Exit.then]
  have y0 := T16.c0
  have y1 := T16.c1
  have HE := hidP (And.intro q1 (And.intro q2 (And.intro q3 L6)))
  clear q1 q2 q3 L6 T16 s5 s6 o15 o25 L5 T15 t5 T1 t3 o1 o2 L4 p1 c5 g5 g5' HP3 HX2 hS f0 f1 x0 x1 m0 m1
  go_wp2_with fail
  refine NoPanic.normal ?_
  go_wp2_with fail
  refine bodyPost_ret (v := .tuple #[.agg #[(.slice a1 A1.length d1), (.slice a2 A2.length d2)], .slice (some ⟨g, 0, none⟩) xs.length c]) (by simp [results, Try.results55, go_sem, y0, y1]) rfl ?_
  exact ⟨(.slice a1 A1.length d1), (.slice a2 A2.length d2), g, c, A1, A2, xs, w2.heap.size, rfl, HE.out.1, HE.out.2.1, HE.out.2.2.1, hl1, hl2, hl3, hw2, HE.out.2.2.2⟩

set_option maxHeartbeats 1000000 in
theorem cToBox (ao : Option Addr) (n cap : Nat) (w : World) (hv : CodeV w ao n) (hn : n ≤ 4096) :
    Calls Try.prog 9 #[.slice ao n cap] w fun e w' => ∃ v1 v2 g c L1 L2 xs base, e = .returned (.tuple #[.agg #[v1, v2], .slice (some ⟨g, 0, none⟩) xs.length c]) ∧ IOut base w' v1 L1 ∧ IOut base w' v2 L2 ∧ Row base w' g c xs ∧ L1.length ≤ 5 ∧ L2.length ≤ 5 ∧ xs.length ≤ 5 ∧ w.heap.size ≤ base ∧ Below w.heap.size w w' := by
  obtain ⟨W, hW⟩ : ∃ W, W = w.alloc (.cells #[.slice none 0 0, .slice none 0 0] 26) := ⟨_, rfl⟩
  have hB : Below w.heap.size w W := by rw [hW]; exact alloc_below w _
  have t0 : Two W w.heap.size (.slice none 0 0) (.slice none 0 0) 26 := by rw [hW]; exact Two.made0
  have HC := hidP (cInside ao n cap W (hv.below (Nat.le_refl _) hB) hn)
  have HB := hidP (And.intro hB t0)
  clear hB t0 hv
  go_enter Try.func9, Try.ntmps9
  go_wp2_with fail
  rw [← hW]
  clear hW
  refine HC.out.mono ?_
  rintro e w1 ⟨v1, v2, g, c, A1, A2, xs, base, rfl, o1, o2, p1, hl1, hl2, hl3, hbs, L1⟩
  obtain ⟨a1, d1, rfl, _⟩ := o1.view
  obtain ⟨a2, d2, rfl, _⟩ := o2.view
  have T1 := HB.out.2.below L1
  have hz1 := HB.out.2.lt
  have hgl := Row.lt2 p1
  have f0 := T1.frozen 0
  have f1 := T1.frozen 1
  have x0 := T1.c0
  have x1 := T1.c1
  have T16 := (T1.set0 (.slice a1 A1.length d1)).set1 (.slice a2 A2.length d2)
  have y0 := T16.c0
  have y1 := T16.c1
  have q1 := (o1.set (D := w.heap.size) (i := 0) (x := .slice a1 A1.length d1) (by omega)).set (D := w.heap.size) (i := 1) (x := .slice a2 A2.length d2) (by omega)
  have q2 := (o2.set (D := w.heap.size) (i := 0) (x := .slice a1 A1.length d1) (by omega)).set (D := w.heap.size) (i := 1) (x := .slice a2 A2.length d2) (by omega)
  have q3 : Row base ((w1.setCell ⟨w.heap.size, 0, none⟩ (.slice a1 A1.length d1)).setCell ⟨w.heap.size, 1, none⟩ (.slice a2 A2.length d2)) g c xs := World.ownsRow.kept (World.ownsRow.kept p1 (grown_setCell w1 w.heap.size 0 (.slice a1 A1.length d1)) (Or.inr (by simp [Value.ownBlock]; omega))) (grown_setCell _ w.heap.size 1 (.slice a2 A2.length d2)) (Or.inr (by simp [Value.ownBlock]; omega))
  have L6 := set_below (set_below (chain HB.out.1 L1) (Nat.le_refl _) (.slice a1 A1.length d1) (i := 0)) (Nat.le_refl _) (.slice a2 A2.length d2) (i := 1)
  have HE := hidP (And.intro q1 (And.intro q2 (And.intro q3 L6)))
  have hzz := HB.out.1.size
  clear q1 q2 q3 L6 T16 T1 o1 o2 p1 L1 HC
  go_wp2_with fail
  refine bodyPost_ret (v := .tuple #[.agg #[(.slice a1 A1.length d1), (.slice a2 A2.length d2)], .slice (some ⟨g, 0, none⟩) xs.length c]) (by simp [results, Try.results9, go_sem, y0, y1]) rfl ?_
  exact ⟨(.slice a1 A1.length d1), (.slice a2 A2.length d2), g, c, A1, A2, xs, base, rfl, HE.out.1, HE.out.2.1, HE.out.2.2.1, hl1, hl2, hl3, by omega, HE.out.2.2.2⟩

end Go.Proofs.Ytodielfilhodeaa
