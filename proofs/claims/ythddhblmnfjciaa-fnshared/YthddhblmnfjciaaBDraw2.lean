/-
  The given DrawShared, and the laws' own likeBox.
-/
import Derived.Test.YthddhblmnfjciaaBDraw
import Derived.Test.YthddhblmnfjciaaLike
namespace Go.Proofs.Ythddhblmnfjciaa
open Go Go.RowKit

set_option maxHeartbeats 1000000 in
theorem likeX (a1 a2 b1 b2 : Option Addr) (c1 c2 d1 d2 : Nat) (lo hi lo' hi' : List Int) (w : World) (h1 : View w a1 lo) (h2 : View w a2 hi) (h3 : View w b1 lo') (h4 : View w b2 hi') (n1 : lo.length ≤ 1048576) (n2 : hi.length ≤ 1048576) :
    Calls Try.prog 61 #[.agg #[.slice a1 lo.length c1, .slice a2 hi.length c2], .agg #[.slice b1 lo'.length d1, .slice b2 hi'.length d2]] w fun e w' => e = .returned (.bool (decide (lo = lo') && decide (hi = hi'))) ∧ Below w.heap.size w w' := by
  obtain ⟨W, hW⟩ : ∃ W, W = (w.alloc (.cells #[.slice a1 lo.length c1, .slice a2 hi.length c2] 75)).alloc (.cells #[.slice b1 lo'.length d1, .slice b2 hi'.length d2] 75) := ⟨_, rfl⟩
  have hB : Below w.heap.size w W := by rw [hW]; exact below_alloc (alloc_below w _) _
  have k2 : W.cell? ⟨w.heap.size, 1, none⟩ = some (.slice a2 hi.length c2) := by rw [hW]; exact (Two.made0.alloc _).c1
  have k4 : W.cell? ⟨w.heap.size + 1, 1, none⟩ = some (.slice b2 hi'.length d2) := by rw [hW]; exact Two.made1.c1
  have HS := hidP (likeS a1 b1 c1 d1 lo lo' W (h1.next hB) (h3.next hB) n1)
  have HV := hidP (And.intro (h2.next hB) (h4.next hB))
  have HB := hidP hB
  clear hB h1 h2 h3 h4
  rcases he : decide (lo = lo') with _ | _
  · rw [he] at HS
    go_enter Try.func61, Try.ntmps61
    go_wp2_with fail
    rw [← hW]
    refine HS.out.mono ?_
    rintro e w2 ⟨rfl, n, hw2⟩
    have HB2 : Hid (Below w.heap.size w w2) := by rw [hw2]; exact below_drewN HB.out n
    clear hw2 hW k2 k4
    go_wp2_with fail
    go_ret
    exact ⟨by simp, HB2.out⟩
  · rw [he] at HS
    go_enter Try.func61, Try.ntmps61
    go_wp2_with fail
    rw [← hW]
    refine HS.out.mono ?_
    rintro e w2 ⟨rfl, n, hw2⟩
    have q2 : w2.cell? ⟨w.heap.size, 1, none⟩ = some (.slice a2 hi.length c2) := by rw [hw2]; exact k2
    have q4 : w2.cell? ⟨w.heap.size + 1, 1, none⟩ = some (.slice b2 hi'.length d2) := by rw [hw2]; exact k4
    have HS2 := hidP (likeS a2 b2 c2 d2 hi hi' w2 (by rw [hw2]; exact HV.out.1) (by rw [hw2]; exact HV.out.2) n2)
    have HB2 : Hid (Below w.heap.size w w2) := by rw [hw2]; exact below_drewN HB.out n
    clear hw2 HS k2 k4 hW
    go_wp2_with fail
    refine HS2.out.mono ?_
    rintro e w3 ⟨rfl, n3, hw3⟩
    have HB3 : Hid (Below w.heap.size w w3) := by rw [hw3]; exact below_drewN HB2.out n3
    clear hw3
    go_wp2_with fail
    go_ret
    exact ⟨by simp, HB3.out⟩

set_option maxRecDepth 100000 in
set_option maxHeartbeats 2000000 in
theorem cShared (ao : Option Addr) (n cap : Nat) (w : World) (hv : CodeV w ao n) (hn : n ≤ 4096) :
    Calls Try.prog 58 #[.slice ao n cap] w fun e w' => ∃ v1 v2 u1 u2 L1 L2 M1 M2 base, e = .returned (.tuple #[.agg #[v1, v2], .agg #[u1, u2]]) ∧ IOut base w' v1 L1 ∧ IOut base w' v2 L2 ∧ IOut base w' u1 M1 ∧ IOut base w' u2 M2 ∧ L1.length ≤ 5 ∧ L2.length ≤ 5 ∧ M1.length ≤ 5 ∧ M2.length ≤ 5 ∧ Below w.heap.size w w' := by
  obtain ⟨W, hW⟩ : ∃ W, W = (w.alloc (.cells #[.slice none 0 0, .slice none 0 0] 75)).alloc (.cells #[.slice none 0 0, .slice none 0 0] 75) := ⟨_, rfl⟩
  have hB : Below w.heap.size w W := by rw [hW]; exact below_alloc (alloc_below w _) _
  have t0 : Two W w.heap.size (.slice none 0 0) (.slice none 0 0) 75 := by rw [hW]; exact Two.made0.alloc _
  have t1 : Two W (w.heap.size + 1) (.slice none 0 0) (.slice none 0 0) 75 := by rw [hW]; exact Two.made1
  have HC := hidP (cNew ao n cap W (hv.below (Nat.le_refl _) hB) hn)
  have HB := hidP (And.intro hB (And.intro t0 t1))
  have HV0 := hidP hv
  clear hB t0 t1 hv
  go_enter Try.func58, Try.ntmps58
  go_wp2_with fail
  rw [← hW]
  clear hW
  refine HC.out.mono ?_
  rintro e w1 ⟨rfl, c1, L1⟩
  have hq := c1.lt
  have hz1 := HB.out.2.2.lt
  have HP1 := hidP (And.intro c1 (And.intro (HB.out.2.1.below L1) (And.intro (HB.out.2.2.below L1) (chain HB.out.1 L1))))
  have HF := hidP (cBelow W.heap.size ao n cap 3 w1 c1 (HV0.out.below (Nat.le_refl _) (chain HB.out.1 L1)) hn (by omega) (by omega))
  clear c1 L1 HC
  go_wp2_with fail
  refine HF.out.mono ?_
  rintro e w2 ⟨⟨y, hy0, hy1, rfl⟩, c2, g2⟩
  have hzW := HB.out.1.size
  have L2 : Below w.heap.size w w2 := HP1.out.2.2.2.grown g2 HP1.out.2.2.2.size (by intro k hk; cases hk; exact hzW)
  have HP2 := hidP (And.intro c2 (And.intro (HP1.out.2.1.grown g2 (by simp; omega)) (And.intro (HP1.out.2.2.1.grown g2 (by simp; omega)) L2)))
  have HX := hidP (cBox W.heap.size ao n cap (1 + y) w2 c2 (HV0.out.below (Nat.le_refl _) L2) hn (by omega) (by omega))
  clear c2 g2 L2 HF HP1 hq
  go_wp2_with fail
  refine HX.out.mono ?_
  rintro e w3 ⟨⟨v1, v2, A1, A2, rfl, o1, o2, ap, hl1, hl2⟩, c3, g3⟩
  obtain ⟨a1, d1, rfl, _⟩ := o1.view
  obtain ⟨a2, d2, rfl, _⟩ := o2.view
  have hq2 := HP2.out.1.lt
  have L3 : Below w.heap.size w w3 := HP2.out.2.2.2.grown g3 HP2.out.2.2.2.size (by intro k hk; cases hk; exact hzW)
  obtain ⟨W3, hW3⟩ : ∃ W3, W3 = w3.alloc (.cells #[(.slice a1 A1.length d1), (.slice a2 A2.length d2)] 75) := ⟨_, rfl⟩
  have hA3 : Below w3.heap.size w3 W3 := by rw [hW3]; exact alloc_below w3 _
  have t3 : Two W3 w3.heap.size (.slice a1 A1.length d1) (.slice a2 A2.length d2) 75 := by rw [hW3]; exact Two.made0
  have T1 := (HP2.out.2.1.grown g3 (by simp; omega)).below hA3
  have T2 := (HP2.out.2.2.1.grown g3 (by simp; omega)).below hA3
  have c4 : Cur W3 W.heap.size ao n cap := by rw [hW3]; exact c3.alloc _
  have L4 := chain L3 hA3
  have HP3 := hidP (And.intro c4 (And.intro T1 (And.intro T2 (And.intro L4 (And.intro t3 (And.intro (o1.below hA3) (o2.below hA3)))))))
  have HX2 := hidP (cBox W.heap.size ao n cap (1 + y) W3.drew c4.drew (HV0.out.below (Nat.le_refl _) L4 : CodeV W3 ao n) hn (by omega) (by omega))
  have hz3 := t3.lt
  have h3q := c3.lt
  have h23 := g3.size
  have m0 := t3.c0
  have m1 := t3.c1
  clear o1 o2 ap c3 g3 hA3 t3 T1 T2 c4 L4 HX HP2 L3
  go_wp2_with fail
  rw [← hW3]
  clear hW3
  refine wp_region_calm (S := fun X => X.cell? ⟨w3.heap.size, 0, none⟩ = some (.slice a1 A1.length d1) ∧ X.cell? ⟨w3.heap.size, 1, none⟩ = some (.slice a2 A2.length d2)) (fuel := 2)
    [0, 1, 2] _ rfl (by kernel_rfl) (by kernel_rfl) (by kernel_rfl) (by kernel_rfl) (by kernel_rfl) (by kernel_rfl) (by kernel_rfl) ⟨m0, m1⟩ (fun hS => ?_)
  iterate 3
    refine ⟨_, rfl, ?_⟩
    apply Exists.intro
    refine ⟨Or.inl ⟨by rfl, fun w' hw' => ?_⟩, ?_⟩
    · first
      | (go_simp; done)
      | (go_simp; with_reducible rfl)
    simp only [Act.put, List.setIfInBounds_toArray]
  refine calm_one 3 (by kernel_rfl) rfl (fun K hK => ?_)
  go_simp
  refine HX2.out.mono ?_
  rintro e w5 ⟨⟨u1, u2, B1, B2, rfl, p1, p2, _, hl3, hl4⟩, c5, g5'⟩
  obtain ⟨a3, d3, rfl, _⟩ := p1.view
  obtain ⟨a4, d4, rfl, _⟩ := p2.view
  have g5 : W3.grownBy w5 (some W.heap.size) := ⟨g5'.os, g5'.tape, g5'.output, g5'.size, g5'.block⟩
  obtain ⟨_, T1, T2, L4, t3, o1, o2⟩ := HP3.out
  have t5 := t3.grown g5 (by simp; omega)
  have T15 := T1.grown g5 (by simp; omega)
  have T25 := T2.grown g5 (by simp; omega)
  have o15 := o1.kept g5 (fun k hk => by have := o1.own k hk; simp; omega)
  have o25 := o2.kept g5 (fun k hk => by have := o2.own k hk; simp; omega)
  have L5 : Below w.heap.size w w5 := L4.grown g5 L4.size (by intro k hk; cases hk; exact hzW)
  refine hK.out _ _ ⟨t5.c0, t5.c1⟩ (fun _ => ?_)
  clear hK K
  have f0 := T15.frozen 0
  have f1 := T15.frozen 1
  have x0 := T15.c0
  have x1 := T15.c1
  have hT3 : w.heap.size ≠ w3.heap.size := by omega
  have s5 := t5.far (x := (.slice a1 A1.length d1)) (q := w.heap.size) (i := 0) hT3
  have s6 := s5.far (x := (.slice a2 A2.length d2)) (q := w.heap.size) (i := 1) hT3
  have T16 := (T15.set0 (.slice a1 A1.length d1)).set1 (.slice a2 A2.length d2)
  have T26 := (T25.far (x := (.slice a1 A1.length d1)) (q := w.heap.size) (i := 0) (by omega)).far (x := (.slice a2 A2.length d2)) (q := w.heap.size) (i := 1) (by omega)
  obtain ⟨W6, hW6⟩ : ∃ W6, W6 = (w5.setCell ⟨w.heap.size, 0, none⟩ (.slice a1 A1.length d1)).setCell ⟨w.heap.size, 1, none⟩ (.slice a2 A2.length d2) := ⟨_, rfl⟩
  rw [← hW6] at s6 T16 T26
  have q1 : IOut w2.heap.size W6 (.slice a1 A1.length d1) A1 := by rw [hW6]; exact (o15.set (by omega)).set (by omega)
  have q2 : IOut w2.heap.size W6 (.slice a2 A2.length d2) A2 := by rw [hW6]; exact (o25.set (by omega)).set (by omega)
  have q3 : IOut w2.heap.size W6 (.slice a3 B1.length d3) B1 := by rw [hW6]; exact ((p1.set (by show _ < W3.heap.size; omega)).set (by show _ < W3.heap.size; omega)).mono (by show _ ≤ W3.heap.size; omega)
  have q4 : IOut w2.heap.size W6 (.slice a4 B2.length d4) B2 := by rw [hW6]; exact ((p2.set (by show _ < W3.heap.size; omega)).set (by show _ < W3.heap.size; omega)).mono (by show _ ≤ W3.heap.size; omega)
  have L6 : Below w.heap.size w W6 := by rw [hW6]; exact set_below (set_below L5 (Nat.le_refl _) _) (Nat.le_refl _) _
  refine calm_one 4 (by kernel_rfl) rfl (fun K hK => ?_)
  go_simp
  rw [← hW6]
  refine hK.out _ _ ⟨s6.c0, s6.c1⟩ (fun _ => ?_)
  clear hK K hW6
  refine wpAnyH_done (by kernel_rfl) ?_ _
  simp only [Exit.then]
  have f2 := T26.frozen 0
  have f3 := T26.frozen 1
  have x2 := T26.c0
  have x3 := T26.c1
  have T17 := (T16.far (x := (.slice a3 B1.length d3)) (q := w.heap.size + 1) (i := 0) (by omega)).far (x := (.slice a4 B2.length d4)) (q := w.heap.size + 1) (i := 1) (by omega)
  have T27 := (T26.set0 (.slice a3 B1.length d3)).set1 (.slice a4 B2.length d4)
  have y0 := T17.c0
  have y1 := T17.c1
  have y2 := T27.c0
  have y3 := T27.c1
  have HE := hidP (And.intro ((q1.set (D := w.heap.size + 1) (i := 0) (x := (.slice a3 B1.length d3)) (by omega)).set (D := w.heap.size + 1) (i := 1) (x := (.slice a4 B2.length d4)) (by omega)) (And.intro ((q2.set (D := w.heap.size + 1) (i := 0) (x := (.slice a3 B1.length d3)) (by omega)).set (D := w.heap.size + 1) (i := 1) (x := (.slice a4 B2.length d4)) (by omega)) (And.intro ((q3.set (D := w.heap.size + 1) (i := 0) (x := (.slice a3 B1.length d3)) (by omega)).set (D := w.heap.size + 1) (i := 1) (x := (.slice a4 B2.length d4)) (by omega)) (And.intro ((q4.set (D := w.heap.size + 1) (i := 0) (x := (.slice a3 B1.length d3)) (by omega)).set (D := w.heap.size + 1) (i := 1) (x := (.slice a4 B2.length d4)) (by omega)) (set_below (set_below L6 (show w.heap.size ≤ w.heap.size + 1 by omega) (.slice a3 B1.length d3) (i := 0)) (show w.heap.size ≤ w.heap.size + 1 by omega) (.slice a4 B2.length d4) (i := 1))))))
  clear q1 q2 q3 q4 L6 T16 T26 T17 T27 s5 s6 o15 o25 L5 T15 T25 t5 T1 T2 t3 o1 o2 L4 p1 p2 c5 g5 g5' HP3 HX2 hS f0 f1 x0 x1 m0 m1
  go_wp2_with fail
  refine NoPanic.normal ?_
  go_wp2_with fail
  refine bodyPost_ret (v := .tuple #[.agg #[(.slice a1 A1.length d1), (.slice a2 A2.length d2)], .agg #[(.slice a3 B1.length d3), (.slice a4 B2.length d4)]]) (by simp [results, Try.results58, go_sem, y0, y1, y2, y3]) rfl ?_
  exact ⟨(.slice a1 A1.length d1), (.slice a2 A2.length d2), (.slice a3 B1.length d3), (.slice a4 B2.length d4), A1, A2, B1, B2, w2.heap.size, rfl, HE.out.1, HE.out.2.1, HE.out.2.2.1, HE.out.2.2.2.1, hl1, hl2, hl3, hl4, HE.out.2.2.2.2⟩

end Go.Proofs.Ythddhblmnfjciaa
