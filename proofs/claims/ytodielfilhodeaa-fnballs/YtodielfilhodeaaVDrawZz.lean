/-
  The draws of balls: l6DrawAny, DrawBalls, DrawClosest.
-/
import Derived.Test.YtodielfilhodeaaVHalvIZz
import Derived.Test.YtodielfilhodeaaKDrawZz
import Derived.Test.YtodielfilhodeaaLastZz
namespace Go.Proofs.Ytodielfilhodeaa
open Go Go.RowKit

theorem BGot.grownq {B q : Nat} {w w' : World} {v : Value} {ks : List Kn} (h : BGot B w v ks) (g : w.grownBy w' (some q)) (hq : q < B) : BGot B w' v ks :=
  h.gin (GIn.grown (GIn.refl q (q + 1) w) g (Nat.le_refl _) (by omega)) (by omega)

/-- What a draw of balls hands back. -/
def BDrawn (B : Nat) (w : World) (v : Value) : Prop := ∃ ks, BGot B w v ks ∧ ks.length ≤ 60 ∧ ∀ k ∈ ks, k.1.2.length ≤ 4

set_option maxRecDepth 100000 in
set_option maxHeartbeats 4000000 in
theorem cBalls (q : Nat) (ao : Option Addr) (n cap : Nat) (w : World) (hc : Cur w q ao n cap) (hv : CodeV w ao n) (hn : n ≤ 4096) :
    Calls Try.prog 85 #[.pointer (some ⟨q, 0, none⟩)] w fun e w' => (∃ v, e = .returned v ∧ BDrawn w.heap.size w' v) ∧ Cur w' q ao n cap ∧ w.grownBy w' (some q) := by
  have hq := hc.lt
  go_enter Try.func85, Try.ntmps85
  go_wp2_with fail
  refine (cMarksAny q ao n cap 9 _ hc hv hn (by omega) (by omega)).mono ?_
  rintro e w1 ⟨⟨g, c, ms, rfl, hnew⟩, c1, g1⟩
  have v1 := hv.grown hc g1
  go_wp2_with fail
  refine (sBalls (some ⟨g, 0, none⟩) c ms _ hnew.2.1 hnew.view (hnew.small (by omega))).mono ?_
  rintro e w2 ⟨v, rfl, hgot, L2⟩
  have g2 : w.grownBy w2 (some q) := grown_then g1 L2
  have c2 : Cur w2 q ao n cap := c1.grown (grown_below L2) (by simp)
  have v2 := hv.grown hc g2
  have hks : (ballsV ms).length ≤ 60 ∧ ∀ k ∈ ballsV ms, k.1.2.length ≤ 4 := ⟨balls_len ms, fun k hk => balls_at ms k hk⟩
  replace hgot : BGot w.heap.size w2 v (ballsV ms) := hgot.mono g1.size
  generalize ballsV ms = ks at *
  clear L2 c1 v1 g1 hnew
  have HEND : Hid (∀ w3, w2.grownBy w3 (some q) → BDrawn w.heap.size w3 v) := fun w3 g3 => ⟨ks, hgot.grownq g3 hq, hks⟩
  rcases hgot with ⟨rfl, rfl⟩ | ⟨g, c, es, rfl, he, hr, ho⟩
  · go_wp2_with fail
    refine (cOnce q ao n cap 12 _ c2 v2 hn (by omega) (by omega)).mono ?_
    rintro e w3 ⟨⟨x, rfl⟩, c3, g3⟩
    have g23 := grown_trans g2 g3
    have H3 := hidP (And.intro (HEND.out w3 g3) (And.intro c3 g23))
    cases x with
    | false =>
      go_wp2_with fail
      go_ret
      exact ⟨⟨_, rfl, H3.out.1⟩, H3.out.2⟩
    | true =>
      go_wp2_with fail
      go_ret
      exact ⟨⟨_, rfl, H3.out.1⟩, H3.out.2⟩
  · have hgl := hr.lt
    have hkl : ks.length = es.length := by rw [← he, List.length_map]
    have HES : Hid (es.length ≤ 60 ∧ ∀ d ∈ es, d.1.2.2.2.length ≤ 4) := ⟨by omega, fun d hd => hks.2 (dkKn d) (by rw [← he]; exact List.mem_map_of_mem hd)⟩
    rw [hkl]
    rw [hkl] at HEND
    have h60 := HES.out.1
    have HR2 := hidP (And.intro hr ho)
    clear hkl he hks hr ho
    go_wp2_with fail
    refine (cOnce q ao n cap 12 _ c2 v2 hn (by omega) (by omega)).mono ?_
    rintro e w3 ⟨⟨x, rfl⟩, c3, g3⟩
    have g23 := grown_trans g2 g3
    have v3 := hv.grown hc g23
    have H3 := hidP (And.intro (HEND.out w3 g3) (And.intro c3 g23))
    cases x with
    | false =>
      go_wp2_with fail
      go_ret
      exact ⟨⟨_, rfl, H3.out.1⟩, H3.out.2⟩
    | true =>
      by_cases h0 : es.length = 0
      · have h0b : ¬ ((0 : Int) < (es.length : Int)) := by omega
        have H0 := hidP h0
        clear h0
        go_wp2_with fail
        go_ret
        exact ⟨⟨_, rfl, H3.out.1⟩, H3.out.2⟩
      · have h0b : (0 : Int) < (es.length : Int) := by omega
        clear HEND
        go_wp2_with fail
        refine (cBelow q ao n cap es.length _ c3 v3 hn (by omega) (by omega)).mono ?_
        rintro e w4 ⟨⟨y, y0, y1, rfl⟩, c4, g4⟩
        obtain ⟨yn, rfl⟩ := Int.eq_ofNat_of_zero_le y0
        have hyn : yn < es.length := by omega
        have g24 := grown_trans g3 g4
        have v4 := hv.grown hc (grown_trans g2 g24)
        clear g3 g4 g23 c3 v3 H3
        go_wp2_with fail
        refine (cBelow q ao n cap 4 _ c4 v4 hn (by omega) (by omega)).mono ?_
        rintro e w5 ⟨⟨z, z0, z1, rfl⟩, c5, g5⟩
        have g25 := grown_trans g24 g5
        have v5 := hv.grown hc (grown_trans g2 g25)
        have HPUT : Hid (∀ (j : Nat) (u : Int) (w6 : World), j < 5 → j ≠ 1 → Cur w6 q ao n cap → w5.grownBy w6 (some q) → w6.frozen? ⟨g, yn * 5 + j, none⟩ = false ∧ (BDrawn w.heap.size (w6.setCell ⟨g, yn * 5 + j, none⟩ (.int .i64 u)) (.slice (some ⟨g, 0, none⟩) es.length c)) ∧ Cur (w6.setCell ⟨g, yn * 5 + j, none⟩ (.int .i64 u)) q ao n cap ∧ w.grownBy (w6.setCell ⟨g, yn * 5 + j, none⟩ (.int .i64 u)) (some q)) := fun j u w6 hj hj1 c6 g6 => by
          have g26 := grown_trans g25 g6
          obtain ⟨hr, ho⟩ := HR2.out
          obtain ⟨h60, h4⟩ := HES.out
          have hr6 : BRow w.heap.size w6 g c es := hr.kept g26 (fun e => by injection e with e; omega)
          have ho6 : KOuts w.heap.size w6 g es := by
            refine ⟨fun d hd => ?_, ho.2⟩
            obtain ⟨k, e, r, nn⟩ := ho.1 d hd
            exact ⟨k, e, r.kept g26 (fun x => by injection x with x; have := r.lt.1; omega), nn⟩
          have hfz := World.ownsRow.frozenAt hr6 (yn * 5 + j)
          obtain ⟨pre, d, rest, hes, hpre⟩ := es_split hyn
          subst hpre
          have gs := grown_setCell w6 g (pre.length * 5 + j) (.int .i64 u)
          have hfin : ∀ d' : Dk, d'.1.2 = d.1.2 → BRow w.heap.size (w6.setCell ⟨g, pre.length * 5 + j, none⟩ (.int .i64 u)) g c (pre ++ d' :: rest) → BDrawn w.heap.size (w6.setCell ⟨g, pre.length * 5 + j, none⟩ (.int .i64 u)) (.slice (some ⟨g, 0, none⟩) es.length c) := fun d' e' hrow => by
            rw [hes] at ho6 h4 h60
            refine ⟨(pre ++ d' :: rest).map dkKn, Or.inr ⟨g, c, pre ++ d' :: rest, by rw [hes]; simp, rfl, hrow, (ho6.put e').kept gs⟩, by simpa using h60, fun k hk => ?_⟩
            obtain ⟨x, hx, rfl⟩ := List.mem_map.1 hk
            rcases List.mem_append.1 hx with h1 | h1
            · exact h4 x (by simp [h1])
            · rcases List.mem_cons.1 h1 with rfl | h2
              · show x.1.2.2.2.length ≤ 4
                rw [e']; exact h4 d (by simp)
              · exact h4 x (by simp [h2])
          refine ⟨hfz, ?_, c6.grown gs (by simp; omega), grown_far (grown_trans g2 g26) gs (by intro k hk; cases hk; omega)⟩
          rw [hes] at hr6
          have hj5 : j = 0 ∨ j = 2 ∨ j = 3 ∨ j = 4 := by omega
          rcases hj5 with rfl | rfl | rfl | rfl
          · exact hfin ((u, d.1.2), d.2) rfl (hr6.ident u)
          · exact hfin (d.1, u, d.2.2) rfl (hr6.axis u)
          · exact hfin (d.1, d.2.1, u, d.2.2.2) rfl (hr6.less u)
          · exact hfin (d.1, d.2.1, d.2.2.1, u) rfl (hr6.more u)
        have HC5 := hidP (And.intro c5 v5)
        have HCELL : Hid (∀ (w6 : World), w5.grownBy w6 (some q) → ∀ j, j < 5 → ∃ x, w6.cell? ⟨g, yn * 5 + j, none⟩ = some x) := fun w6 g6 j hj => by
          have hr6 : BRow w.heap.size w6 g c es := HR2.out.1.kept (grown_trans g25 g6) (fun e => by injection e with e; omega)
          obtain ⟨k0, k1, k2, k3, k4⟩ := hr6.cell hyn
          have hj5 : j = 0 ∨ j = 1 ∨ j = 2 ∨ j = 3 ∨ j = 4 := by omega
          rcases hj5 with rfl | rfl | rfl | rfl | rfl
          · exact ⟨_, k0⟩
          · exact ⟨_, k1⟩
          · exact ⟨_, k2⟩
          · exact ⟨_, k3⟩
          · exact ⟨_, k4⟩
        have HRAD : Hid (∀ (w6 : World), w5.grownBy w6 (some q) → w6.cell? ⟨g, yn * 5 + 2, none⟩ = some (.int .i64 (dnth es yn).2.1)) := fun w6 g6 => by
          have hr6 : BRow w.heap.size w6 g c es := HR2.out.1.kept (grown_trans g25 g6) (fun e => by injection e with e; omega)
          exact (hr6.cell hyn).2.2.1
        clear g24 g5 g25 c4 v4 c5 v5
        rcases int4 z0 z1 with rfl | rfl | rfl | rfl
        · clear HCELL
          obtain ⟨rad, hrad⟩ : ∃ rad, rad = (dnth es yn).2.1 := ⟨_, rfl⟩
          rw [← hrad] at HRAD
          have hS0 := HRAD.out w5 (grown_refl _ _)
          clear hrad
          go_wp2_with fail
          refine wp_region_calm2 (S := fun w' => w'.cell? ⟨g, yn * 5 + 2, none⟩ = some (.int .i64 rad)) (fuel := 4)
            [0, 1, 2, 3, 4, 5] _ rfl (by kernel_rfl) (by kernel_rfl) (by kernel_rfl) (by kernel_rfl) (by kernel_rfl) (by kernel_rfl) (by kernel_rfl) hS0 (fun hS => ?_)
          iterate 6
            refine ⟨_, rfl, ?_⟩
            apply Exists.intro
            refine ⟨Or.inl ⟨by rfl, fun w' hw' => ?_⟩, ?_⟩
            · first
              | (go_simp; done)
              | (go_simp; with_reducible rfl)
            simp only [Act.put, List.setIfInBounds_toArray]
          refine calm_one 6 (by kernel_rfl) rfl (fun K hK => ?_)
          go_simp
          refine (cFrom q ao n cap (-1) 3 w5.drew HC5.out.1 HC5.out.2 hn (by omega) (by omega) (by omega) (by omega)).mono ?_
          rintro e w6 ⟨⟨u, _, _, rfl⟩, c6, g6⟩
          have g6' : w5.grownBy w6 (some q) := ⟨g6.os, g6.tape, g6.output, g6.size, g6.block⟩
          have hx := HRAD.out w6 g6'
          refine hK.out _ _ hx (fun _ => ?_)
          clear hK K
          refine calm_one 7 (by kernel_rfl) rfl (fun K hK => ?_)
          go_simp
          refine hK.out _ _ hx (fun _ => ?_)
          clear hK K
          refine calm_one 8 (by kernel_rfl) rfl (fun K hK => ?_)
          go_simp
          refine hK.out _ _ hx (fun _ => ?_)
          clear hK K
          refine calm_one 9 (by kernel_rfl) rfl (fun K hK => ?_)
          go_simp
          refine hK.out _ _ hx (fun _ => ?_)
          clear hK K
          refine wpAnyH_done (by kernel_rfl) ?_ _
          simp only [Exit.then]
          have HP := hidP (HPUT.out 2 (wrap64 (rad + u)) w6 (by omega) (by omega) c6 g6')
          have hfz := HP.out.1
          clear c6 g6 g6' hS hS0
          go_wp2_with fail
          refine NoPanic.normal ?_
          go_wp2_with fail
          go_ret
          exact ⟨⟨_, rfl, HP.out.2.1⟩, HP.out.2.2⟩
        · go_wp2_with fail
          refine (cFrom q ao n cap (-2) 9 _ HC5.out.1 HC5.out.2 hn (by omega) (by omega) (by omega) (by omega)).mono ?_
          rintro e w6 ⟨⟨u, _, _, rfl⟩, c6, g6⟩
          have HP := hidP (HPUT.out 3 u w6 (by omega) (by omega) c6 g6)
          have hfz := HP.out.1
          obtain ⟨x, hx⟩ := HCELL.out w6 g6 3 (by omega)
          clear c6 g6
          go_wp2_with fail
          go_ret
          exact ⟨⟨_, rfl, HP.out.2.1⟩, HP.out.2.2⟩
        · go_wp2_with fail
          refine (cFrom q ao n cap (-2) 9 _ HC5.out.1 HC5.out.2 hn (by omega) (by omega) (by omega) (by omega)).mono ?_
          rintro e w6 ⟨⟨u, _, _, rfl⟩, c6, g6⟩
          have HP := hidP (HPUT.out 4 u w6 (by omega) (by omega) c6 g6)
          have hfz := HP.out.1
          obtain ⟨x, hx⟩ := HCELL.out w6 g6 4 (by omega)
          clear c6 g6
          go_wp2_with fail
          go_ret
          exact ⟨⟨_, rfl, HP.out.2.1⟩, HP.out.2.2⟩
        · go_wp2_with fail
          refine (cBelow q ao n cap 5 _ HC5.out.1 HC5.out.2 hn (by omega) (by omega)).mono ?_
          rintro e w6 ⟨⟨u, _, _, rfl⟩, c6, g6⟩
          have HP0 := HPUT.out 0 u w6 (by omega) (by omega) c6 g6
          simp only [Nat.add_zero] at HP0
          have HP := hidP HP0
          have hfz := HP.out.1
          obtain ⟨x, hx⟩ := HCELL.out w6 g6 0 (by omega)
          simp only [Nat.add_zero] at hx
          clear HP0
          clear c6 g6
          go_wp2_with fail
          go_ret
          exact ⟨⟨_, rfl, HP.out.2.1⟩, HP.out.2.2⟩

set_option maxRecDepth 100000 in
set_option maxHeartbeats 1000000 in
theorem cHalvedD (ao : Option Addr) (n cap : Nat) (w : World) (hv : CodeV w ao n) (hn : n ≤ 4096) :
    Calls Try.prog 83 #[.slice ao n cap] w fun e w' => ∃ a1 c1 ms, e = .returned (.slice a1 ms.length c1) ∧ ms.length ≤ c1 ∧ MView w' a1 ms ∧ MSmall ms ∧ Below w.heap.size w w' := by
  go_enter Try.func83, Try.ntmps83
  go_wp2_with fail
  refine (cNew ao n cap _ hv hn).mono ?_
  rintro e w1 ⟨rfl, c1, L1⟩
  have hv1 := hv.below (Nat.le_refl _) L1
  go_wp2_with fail
  refine (cMarksAny _ ao n cap 9 _ c1 hv1 hn (by omega) (by omega)).mono ?_
  rintro e w2 ⟨⟨g, c, ms, rfl, hnew⟩, c2, g2⟩
  have L2 : Below w.heap.size w w2 := L1.grown g2 L1.size (by intro k hk; cases hk; exact Nat.le_refl _)
  have HE := hidP (And.intro hnew.2.1 (And.intro hnew.view (And.intro (hnew.small (by omega)) L2)))
  clear hnew L2 L1 g2 c1 c2 hv1
  go_wp2_with fail
  go_ret
  exact ⟨_, c, ms, rfl, HE.out.1, HE.out.2.1, HE.out.2.2.1, HE.out.2.2.2⟩

set_option maxRecDepth 100000 in
set_option maxHeartbeats 1000000 in
theorem cBallsD (ao : Option Addr) (n cap : Nat) (w : World) (hv : CodeV w ao n) (hn : n ≤ 4096) :
    Calls Try.prog 27 #[.slice ao n cap] w fun e w' => ∃ a1 c1 ms, e = .returned (.slice a1 ms.length c1) ∧ ms.length ≤ c1 ∧ MView w' a1 ms ∧ MSmall ms ∧ Below w.heap.size w w' := by
  go_enter Try.func27, Try.ntmps27
  go_wp2_with fail
  refine (cHalvedD ao n cap _ hv hn).mono ?_
  rintro e w1 ⟨a1, c1, ms, rfl, h1, h2, h3, L1⟩
  have HE := hidP (And.intro h1 (And.intro h2 (And.intro h3 L1)))
  clear h1 h2 h3 L1
  go_wp2_with fail
  go_ret
  exact ⟨a1, c1, ms, rfl, HE.out.1, HE.out.2.1, HE.out.2.2.1, HE.out.2.2.2⟩

set_option maxRecDepth 100000 in
set_option maxHeartbeats 2000000 in
theorem cClosest (ao : Option Addr) (n cap : Nat) (w : World) (hv : CodeV w ao n) (hn : n ≤ 4096) :
    Calls Try.prog 29 #[.slice ao n cap] w fun e w' => ∃ a1 c1 ks g c xs, e = .returned (.tuple #[.slice a1 ks.length c1, .slice (some ⟨g, 0, none⟩) xs.length c]) ∧ KView w' a1 ks ∧ ks.length ≤ 60 ∧ (∀ k ∈ ks, k.1.2.length ≤ 4) ∧ View w' (some ⟨g, 0, none⟩) xs ∧ xs.length ≤ 5 ∧ Below w.heap.size w w' := by
  go_enter Try.func29, Try.ntmps29
  go_wp2_with fail
  refine (cNew ao n cap _ hv hn).mono ?_
  rintro e w1 ⟨rfl, c1, L1⟩
  have hv1 := hv.below (Nat.le_refl _) L1
  have hq := c1.lt
  go_wp2_with fail
  refine (cBalls _ ao n cap _ c1 hv1 hn).mono ?_
  rintro e w2 ⟨⟨v, rfl, hd⟩, c2, g2⟩
  have L2 : Below w.heap.size w w2 := L1.grown g2 L1.size (by intro k hk; cases hk; exact Nat.le_refl _)
  have hv2 := hv1.grown c1 g2
  have HD := hidP hd
  obtain ⟨ks, hgot, hlen, hat⟩ := hd
  have HN : Hid (∀ m : Int, 0 ≤ m → m ≤ 4 → Calls Try.prog 86 #[.pointer (some ⟨w.heap.size, 0, none⟩), .int .i64 m] w2 fun e w' => (∃ g c xs, e = .returned (.slice (some ⟨g, 0, none⟩) xs.length c) ∧ xs.length ≤ 5 ∧ Row w2.heap.size w' g c xs) ∧ Cur w' w.heap.size ao n cap ∧ w2.grownBy w' (some w.heap.size)) := fun m h0 h1 => cAnyI _ ao n cap m w2 c2 hv2 hn h0 h1
  have HEND : Hid (∀ w3 (g c : Nat) (xs : List Int), xs.length ≤ 5 → Row w2.heap.size w3 g c xs → w2.grownBy w3 (some w.heap.size) → ∃ a1 c1, v = .slice a1 ks.length c1 ∧ KView w3 a1 ks ∧ ks.length ≤ 60 ∧ (∀ k ∈ ks, k.1.2.length ≤ 4) ∧ View w3 (some ⟨g, 0, none⟩) xs ∧ xs.length ≤ 5 ∧ Below w.heap.size w w3) := fun w3 g c xs hx hrow g3 => by
    have L3 : Below w.heap.size w w3 := L2.grown g3 L2.size (by intro k hk; cases hk; exact Nat.le_refl _)
    obtain ⟨a1, cc, e, hkv⟩ := (hgot.grownq g3 hq).view
    exact ⟨a1, cc, e, hkv, hlen, hat, Or.inr ⟨g, 0, rfl, hrow.lt2.2, hrow.seg⟩, hx, L3⟩
  clear L2 L1 g2 c1 c2 hv1 hv2
  rcases hgot with ⟨rfl, rfl⟩ | ⟨g, c, es, rfl, he, hr, ho⟩
  · go_wp2_with fail
    refine (HN.out 2 (by omega) (by omega)).mono ?_
    rintro e w3 ⟨⟨g', c', xs, rfl, hx, hrow⟩, _, g3⟩
    have H3 := hidP (HEND.out w3 g' c' xs hx hrow g3)
    clear hx hrow g3
    go_wp2_with fail
    go_ret2
    obtain ⟨a1, cc, e, hh⟩ := H3.out
    injection e with e1 e2 e3
    subst e1 e3
    exact ⟨_, _, [], g', c', xs, rfl, hh⟩
  · have hkl : ks.length = es.length := by rw [← he, List.length_map]
    rw [hkl] at HEND ⊢
    by_cases h0 : es.length = 0
    · have h0b : ((es.length : Int) == 0) = true := by simp [h0]
      have H0 := hidP h0
      clear h0 he hr ho
      go_wp2_with fail
      refine (HN.out 2 (by omega) (by omega)).mono ?_
      rintro e w3 ⟨⟨g', c', xs, rfl, hx, hrow⟩, _, g3⟩
      have H3 := hidP (HEND.out w3 g' c' xs hx hrow g3)
      clear hx hrow g3
      go_wp2_with fail
      go_ret2
      obtain ⟨a1, cc, e, hh⟩ := H3.out
      injection e with e1 e2 e3
      subst e1 e3
      exact ⟨_, _, ks, g', c', xs, by rw [hkl]; rfl, hh.1, by rw [hkl]; exact hh.2.1, hh.2.2⟩
    · have h0b : ((es.length : Int) == 0) = false := beq_eq_false_iff_ne.2 (by omega)
      have h0c : (0 : Int) < (es.length : Int) := by omega
      have hm : dnth es 0 ∈ es := by simp [dnth, List.getD, show 0 < es.length by omega]
      have h4 := hat (dkKn (dnth es 0)) (by rw [← he]; exact List.mem_map_of_mem hm)
      have h4' : (dnth es 0).1.2.2.2.length ≤ 4 := h4
      have k1 := (hr.cell (show 0 < es.length by omega)).2.1
      simp only [Nat.zero_mul, Nat.zero_add] at k1
      obtain ⟨h, e, _, _⟩ := ho.1 _ hm
      rw [e] at k1
      obtain ⟨L, hL⟩ : ∃ L, L = (dnth es 0).1.2.2.2.length := ⟨_, rfl⟩
      obtain ⟨L2, hL2⟩ : ∃ L, L = (dnth es 0).1.2.2.1 := ⟨_, rfl⟩
      rw [← hL, ← hL2] at k1
      rw [← hL] at h4'
      have HM := hidP (HN.out L (by omega) (by omega))
      have HK := hidP hkl
      clear h0 hkl he hr ho hat h4 HN hL hL2
      go_wp2_with fail
      refine HM.out.mono ?_
      rintro e w3 ⟨⟨g', c', xs, rfl, hx, hrow⟩, _, g3⟩
      have H3 := hidP (HEND.out w3 g' c' xs hx hrow g3)
      clear hx hrow g3
      go_wp2_with fail
      go_ret2
      obtain ⟨a1, cc, e, hh⟩ := H3.out
      injection e with e1 e2 e3
      subst e1 e3
      exact ⟨_, _, ks, g', c', xs, by rw [HK.out]; rfl, hh.1, by rw [HK.out]; exact hh.2.1, hh.2.2⟩

end Go.Proofs.Ytodielfilhodeaa
