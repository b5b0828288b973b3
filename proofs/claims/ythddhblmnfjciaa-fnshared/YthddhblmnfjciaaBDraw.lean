/-
  The given l4Draw: a box that is drawn.
-/
import Derived.Test.YthddhblmnfjciaaBS4
import Derived.Test.YthddhblmnfjciaaDraw
namespace Go.Proofs.Ythddhblmnfjciaa
open Go Go.RowKit

theorem Under.cur {D q : Nat} {w w' : World} {v1 v2 : Value} {L1 L2 : List Int} (h : Under D w v1 v2 L1 L2) (hg : w.grownBy w' (some q)) (hq : q < D) : Under D w' v1 v2 L1 L2 :=
  ⟨h.1.grown hg (by simp; omega), h.2.1.kept hg (fun k hk => by have := h.2.1.own k hk; simp; omega), h.2.2.1.kept hg (fun k hk => by have := h.2.2.1.own k hk; simp; omega), h.2.2.2⟩
theorem IOut.set {base D i : Nat} {w : World} {v x : Value} {L : List Int} (h : IOut base w v L) (hD : D < base) : IOut base (w.setCell ⟨D, i, none⟩ x) v L :=
  h.kept (grown_setCell w D i x) (fun k hk => by have := h.own k hk; simp; omega)
/-- What the drawn box leaves when its block is read into the result. -/
theorem box_end {q n cap : Nat} {ao : Option Addr} {w0 w : World} {v1 v2 : Value} {L1 L2 : List Int} (h : Under (w0.heap.size + 1) w v1 v2 L1 L2) (hc : Cur w q ao n cap) (hg : w0.grownBy w (some q)) (hq : q < w0.heap.size) :
    IOut w0.heap.size ((w.setCell ⟨w0.heap.size, 0, none⟩ v1).setCell ⟨w0.heap.size, 1, none⟩ v2) v1 L1 ∧ IOut w0.heap.size ((w.setCell ⟨w0.heap.size, 0, none⟩ v1).setCell ⟨w0.heap.size, 1, none⟩ v2) v2 L2 ∧ Cur ((w.setCell ⟨w0.heap.size, 0, none⟩ v1).setCell ⟨w0.heap.size, 1, none⟩ v2) q ao n cap ∧ w0.grownBy ((w.setCell ⟨w0.heap.size, 0, none⟩ v1).setCell ⟨w0.heap.size, 1, none⟩ v2) (some q) :=
  ⟨((h.2.1.set (by omega)).set (by omega)).mono (by omega), ((h.2.2.1.set (by omega)).set (by omega)).mono (by omega), (hc.grown (grown_setCell _ _ _ _) (by simp; omega)).grown (grown_setCell _ _ _ _) (by simp; omega),
    grown_far (grown_far hg (grown_setCell _ _ _ _) (by intro k hk; cases hk; exact Nat.le_refl _)) (grown_setCell _ _ _ _) (by intro k hk; cases hk; exact Nat.le_refl _)⟩
/-- The numbers of a drawn box. -/
def Nine (L : List Int) : Prop := ∀ x ∈ L, -6 ≤ x ∧ x ≤ 19
theorem Nine.snoc {L : List Int} {x : Int} (h : Nine L) (h0 : -6 ≤ x) (h1 : x ≤ 19) : Nine (L ++ [x]) := fun y hy => by
  rcases List.mem_append.1 hy with h2 | h2
  · exact h y h2
  · rw [List.mem_singleton.1 h2]; exact ⟨h0, h1⟩
theorem Under.first {D : Nat} {w : World} {v1 v2 : Value} {L1 L2 : List Int} (h : Under D w v1 v2 L1 L2) (x : Int) (h0 : L1.length ≠ 0) : ∃ g c, v1 = .slice (some ⟨g, 0, none⟩) L1.length c ∧ D < g ∧ g < w.heap.size ∧ w.cell? ⟨g, 0, none⟩ = some (.int .i64 (nth L1 0)) ∧ w.frozen? ⟨g, 0, none⟩ = false ∧ Under D (w.setCell ⟨g, 0, none⟩ (.int .i64 x)) v1 v2 (L1.set 0 x) L2 := by
  obtain ⟨t, o1, o2, ap⟩ := h
  rcases o1 with ⟨_, e⟩ | ⟨g, c, rfl, r⟩
  · rw [e] at h0; simp at h0
  · have hs := r.seg 0 (by omega)
    have hl := r.lt
    refine ⟨g, c, rfl, by omega, hl.2, by simpa using hs, World.ownsRow.frozenAt r 0, t.far (by omega) _, Or.inr ⟨g, c, by rw [List.length_set], r.store 0 x⟩, o2.kept (grown_setCell w g 0 _) (fun k hk => by have := ap.own k hk; simpa [Value.ownBlock] using this), ap⟩
theorem Under.top {D : Nat} {w : World} {v1 v2 : Value} {L1 L2 : List Int} (h : Under D w v1 v2 L1 L2) (h0 : L2.length ≠ 0) : ∃ g c, v2 = .slice (some ⟨g, 0, none⟩) L2.length c ∧ D < g ∧ g < w.heap.size ∧ w.cell? ⟨g, 0, none⟩ = some (.int .i64 (nth L2 0)) := by
  obtain ⟨t, o1, o2, ap⟩ := h
  rcases o2 with ⟨_, e⟩ | ⟨g, c, rfl, r⟩
  · rw [e] at h0; simp at h0
  · have hs := r.seg 0 (by omega)
    have hl := r.lt
    exact ⟨g, c, rfl, by omega, hl.2, by simpa using hs⟩

set_option maxRecDepth 100000 in
set_option maxHeartbeats 4000000 in
theorem cBox (q : Nat) (ao : Option Addr) (n cap : Nat) (m : Int) (w : World) (hc : Cur w q ao n cap) (hv : CodeV w ao n) (hn : n ≤ 4096) (hm0 : 0 ≤ m) (hm : m ≤ 4) :
    Calls Try.prog 113 #[.pointer (some ⟨q, 0, none⟩), .int .i64 m] w fun e w' => (∃ v1 v2 L1 L2, e = .returned (.agg #[v1, v2]) ∧ IOut w.heap.size w' v1 L1 ∧ IOut w.heap.size w' v2 L2 ∧ Apart v1 v2 ∧ L1.length ≤ 5 ∧ L2.length ≤ 5) ∧ Cur w' q ao n cap ∧ w.grownBy w' (some q) := by
  have hqs := hc.lt
  obtain ⟨i0, hi0, hz0, hz1, hz2⟩ := info_parts Try.info2
  have HC0 := hidP hc
  have HV0 := hidP hv
  clear hc hv
  go_enter Try.func113, Try.ntmps113
  go_wp2_with fail
  go_loopw [1] (fun s wr => ∃ (k : Nat) (v1 v2 : Value) (L1 L2 : List Int), (k : Int) ≤ m ∧ s = .int .i64 (m - k) ∧ L1.length = k ∧ L2.length = k ∧ Nine L1 ∧ Nine L2 ∧ Under (w.heap.size + 1) wr v1 v2 L1 L2 ∧ Two wr w.heap.size (.slice none 0 0) (.slice none 0 0) 75 ∧ Cur wr q ao n cap ∧ w.grownBy wr (some q)) (fun s _ => (intOf s).toNat)
  case atStart => exact ⟨0, .slice none 0 0, .slice none 0 0, [], [], by omega, by simp, rfl, rfl, fun x hx => (by cases hx), fun x hx => (by cases hx), ⟨Two.made1, Or.inl ⟨rfl, rfl⟩, Or.inl ⟨rfl, rfl⟩, fun a n c b m d h _ => (by cases h)⟩, Two.made0.alloc _, (HC0.out.alloc _).alloc _, grown_far (World.grownBy_alloc w _ _) (World.grownBy_alloc _ _ none) (by simp)⟩
  case round =>
    obtain ⟨k, v1, v2, L1, L2, hk, rfl, hL1, hL2, hN1, hN2, hu, hT, hcr, hg⟩ := hrel
    have HU := hidP hu
    have HZ := hidP (And.intro hcr (And.intro hT hg))
    have HL := hidP (And.intro hL1 hL2)
    have HN := hidP (And.intro hN1 hN2)
    clear hu hcr hT hg hL1 hL2 hN1 hN2
    by_cases hlt : (k : Int) < m
    · have hvr := HV0.out.grown HC0.out HZ.out.2.2
      have HF := hidP (cFrom q ao n cap (-6) 13 wr HZ.out.1 hvr hn (by omega) (by omega) (by omega) (by omega))
      have hgt : m - (k : Int) > 0 := by omega
      clear hvr
      go_wp2_with fail
      refine HF.out.mono ?_
      rintro e w1 ⟨⟨x, hx0, hx1, rfl⟩, c1, g1⟩
      have HU1 := hidP (HU.out.cur g1 (by omega))
      have HZ1 := hidP (And.intro c1 (And.intro (HZ.out.2.1.grown g1 (by simp; omega)) (grown_trans HZ.out.2.2 g1)))
      have q0 := HU1.out.1.c0
      have hO := HU1.out.2.1.owns
      have HO := hidP hO
      have hDw := HU1.out.1.lt
      clear HU HZ HF c1 g1 hO
      go_wp2_with (at_builtin; refine wpList_append_lies _ rfl (.tmp 15) (.tmp 17) 46 rfl (w.heap.size + 1 + 1) 2 i0 _ 1 8 Try.underlying46 hi0 hz0 hz1 hz2 rfl (by omega) v1 L1.length (L1.map (Value.int .i64)) rfl (World.ownsRow.alloc HO.out _) ⟨w1.heap.size, 0, none⟩ 1 1 [.int .i64 x] rfl rfl (World.news_of_block (cs := #[.int .i64 x]) (t := 2) (fr := (0, 0)) (heap_alloc_new w1 _)) (by simp [Value.oneCell']) (by omega) (by have := HL.out; unfold maxLen; omega) (by have := HL.out; omega) (by simp; omega) (w1.heap.size + 1) (by simp) ?_; intro gg cc w2 hown2 hgrow hat hlt1; have hTw := (HU1.out.1.alloc (.cells #[.int .i64 x] 2)).grown hgrow (fun e => by have := HU1.out.2.1.own _ e.symm; omega); have hTf := hTw.frozen 0; have hTc := hTw.c0)
      have hun := HU1.out.low (alloc_below w1 (.cells #[.int .i64 x] 2)) (x := x) hown2 hgrow (by simpa using hat)
      have c2 := (HZ1.out.1.alloc (.cells #[.int .i64 x] 2)).grown hgrow (fun e => by have := HU1.out.2.1.own _ e.symm; omega)
      have T2 := (HZ1.out.2.1.alloc (.cells #[.int .i64 x] 2)).grown hgrow (fun e => by have := HU1.out.2.1.own _ e.symm; omega)
      have G2 := grown_far (grown_far HZ1.out.2.2 (World.grownBy_alloc w1 (.cells #[.int .i64 x] 2) none) (by simp)) hgrow (fun g hg => by have := HU1.out.2.1.own g hg; omega)
      obtain ⟨W1, hW1⟩ : ∃ W1, W1 = w2.setCell ⟨w.heap.size + 1, 0, none⟩ (.slice (some ⟨gg, 0, none⟩) (L1.length + 1) cc) := ⟨_, rfl⟩
      rw [← hW1] at hun ⊢
      have c3 : Cur W1 q ao n cap := by rw [hW1]; exact c2.grown (grown_setCell _ _ _ _) (by simp; omega)
      have T3 : Two W1 w.heap.size (.slice none 0 0) (.slice none 0 0) 75 := by rw [hW1]; exact T2.far (by omega) _
      have G3 : w.grownBy W1 (some q) := by rw [hW1]; exact grown_far G2 (grown_setCell _ _ _ _) (fun g hg => by cases hg; omega)
      have HU2 := hidP hun
      have HZ2 := hidP (And.intro c3 (And.intro T3 G3))
      clear hun c2 T2 G2 c3 T3 G3 hW1 hown2 hgrow hat hlt1 hTw hTf hTc HU1 HZ1 HO q0 hDw
      have hDw := HU2.out.1.lt
      have s0 := HU2.out.1.c1
      have HB := hidP (cBelow q ao n cap 7 W1.drew HZ2.out.1.drew (HV0.out.grown HC0.out HZ2.out.2.2 : CodeV W1 ao n) hn (by omega) (by omega))
      go_wp2_with fail
      refine wp_region_calm (S := fun X => X.cell? ⟨w.heap.size + 1, 1, none⟩ = some v2) (fuel := 5)
        [0, 1, 2, 3] _ rfl (by kernel_rfl) (by kernel_rfl) (by kernel_rfl) (by kernel_rfl) (by kernel_rfl) (by kernel_rfl) (by kernel_rfl) s0 (fun hS => ?_)
      iterate 4
        refine ⟨_, rfl, ?_⟩
        apply Exists.intro
        refine ⟨Or.inl ⟨by rfl, fun w' hw' => ?_⟩, ?_⟩
        · first
          | (go_simp; done)
          | (go_simp; with_reducible rfl)
        simp only [Act.put, List.setIfInBounds_toArray]
      refine calm_one 4 (by kernel_rfl) rfl (fun K hK => ?_)
      go_simp
      refine HB.out.mono ?_
      rintro e w3 ⟨⟨y, hy0, hy1, rfl⟩, c4, g4⟩
      have hu3 := HU2.out.cur (w' := w3) ⟨g4.os, g4.tape, g4.output, g4.size, g4.block⟩ (by omega)
      have g5 : W1.grownBy w3 (some q) := ⟨g4.os, g4.tape, g4.output, g4.size, g4.block⟩
      have HU3 := hidP hu3
      have HZ3 := hidP (And.intro c4 (And.intro (HZ2.out.2.1.grown g5 (by simp; omega)) (grown_trans HZ2.out.2.2 g5)))
      have s1 := hu3.1.c1
      have hO := hu3.2.2.1.owns
      have HO := hidP hO
      have hDw3 := hu3.1.lt
      clear hu3 c4 g4 g5 hO HU2 HZ2 HB s0 hS
      refine hK.out _ _ s1 (fun _ => ?_)
      clear hK K
      have hxy : IntKind.i64.wrap (x + y) = x + y := IntWalk.i64_in _ ⟨by omega, by omega⟩
      refine calm_one 5 (by kernel_rfl) rfl (fun K hK => ?_)
      go_simp
      refine hK.out _ _ s1 (fun _ => ?_)
      clear hK K
      refine calm_one 6 (by kernel_rfl) rfl (fun K hK => ?_)
      go_simp
      refine hK.out _ _ (HU3.out.1.alloc _).c1 (fun _ => ?_)
      clear hK K
      refine calm_one 7 (by kernel_rfl) rfl (fun K hK => ?_)
      refine step_append_lies _ (by rfl) _ _ _ (by rfl) (w.heap.size + 1 + 1) 2 i0 _ 1 8 Try.underlying46 hi0 hz0 hz1 hz2 rfl (by omega) v2 L2.length _ (by rfl) (HO.out.alloc _) ⟨w3.heap.size, 0, none⟩ 1 1 [.int .i64 (x + y)] (by rfl) (by rfl) (World.news_of_block (cs := #[.int .i64 (x + y)]) (t := 2) (fr := (0, 0)) (heap_alloc_new w3 _)) (by simp [Value.oneCell']) (by omega) (by have := HL.out; unfold maxLen; omega) (by have := HL.out; omega) (by simp; omega) (w3.heap.size + 1) (by simp) ?_
      intro gh ch w4 hown2 hgrow hat hlt1
      have hTw := (HU3.out.1.alloc (.cells #[.int .i64 (x + y)] 2)).grown hgrow (fun e => by have := HU3.out.2.2.1.own _ e.symm; omega)
      have hTf := hTw.frozen 1
      have hTc := hTw.c1
      refine hK.out _ _ hTc (fun _ => ?_)
      clear hK K
      refine calm_one 8 (by kernel_rfl) rfl (fun K hK => ?_)
      go_simp
      refine hK.out _ _ hTc (fun _ => ?_)
      clear hK K
      refine wpAnyH_done (by kernel_rfl) ?_ _
      simp only [Exit.then]
      have hun := HU3.out.high (alloc_below w3 (.cells #[.int .i64 (x + y)] 2)) (x := x + y) hown2 hgrow (by simpa using hat)
      have c2 := (HZ3.out.1.alloc (.cells #[.int .i64 (x + y)] 2)).grown hgrow (fun e => by have := HU3.out.2.2.1.own _ e.symm; omega)
      have T2 := (HZ3.out.2.1.alloc (.cells #[.int .i64 (x + y)] 2)).grown hgrow (fun e => by have := HU3.out.2.2.1.own _ e.symm; omega)
      have G2 := grown_far (grown_far HZ3.out.2.2 (World.grownBy_alloc w3 (.cells #[.int .i64 (x + y)] 2) none) (by simp)) hgrow (fun g hg => by have := HU3.out.2.2.1.own g hg; omega)
      have HX := hidP (And.intro hun (And.intro (T2.far (x := .slice (some ⟨gh, 0, none⟩) (L2.length + 1) ch) (q := w.heap.size + 1) (i := 1) (by omega)) (And.intro (c2.grown (grown_setCell w4 (w.heap.size + 1) 1 (.slice (some ⟨gh, 0, none⟩) (L2.length + 1) ch)) (by simp; omega)) (grown_far G2 (grown_setCell w4 (w.heap.size + 1) 1 (.slice (some ⟨gh, 0, none⟩) (L2.length + 1) ch)) (fun g hg => by cases hg; omega)))))
      clear hun c2 T2 G2 hown2 hgrow hat hlt1 hTw HU3 HZ3 HO s1 hDw3
      go_wp2_with fail
      refine NoPanic.normal ?_
      go_wp2_with fail
      go_roundw
      case rel => exact ⟨k + 1, _, _, L1 ++ [x], L2 ++ [x + y], by omega, by congr 1; omega, by simp [HL.out.1], by simp [HL.out.2], HN.out.1.snoc (by omega) (by omega), HN.out.2.snoc (by omega) (by omega), HX.out.1, HX.out.2.1, HX.out.2.2.1, HX.out.2.2.2⟩
      case measure => simp [intOf]; omega
    · obtain ⟨a1, d1, rfl, _⟩ := HU.out.2.1.view
      obtain ⟨a2, d2, rfl, _⟩ := HU.out.2.2.1.view
      have hkm : L1.length ≤ 4 ∧ L2.length ≤ 4 := by have := HL.out; omega
      have hle : ¬ (m - (k : Int) > 0) := by omega
      have HF := hidP (cOnce q ao n cap 12 wr HZ.out.1 (HV0.out.grown HC0.out HZ.out.2.2) hn (by omega) (by omega))
      go_wp2_with fail
      refine HF.out.mono ?_
      rintro e w1 ⟨⟨x, rfl⟩, c1, g1⟩
      have HU' := hidP (HU.out.cur g1 (by omega))
      have HZ' := hidP (And.intro c1 (And.intro (HZ.out.2.1.grown g1 (by simp; omega)) (grown_trans HZ.out.2.2 g1)))
      clear HU HZ HF c1 g1
      have HU := HU'
      have HZ := HZ'
      clear HU' HZ'
      cases x with
      | false =>
        have hTr := HZ.out.2.1
        have hTd := HU.out.1
        have q0 := hTd.c0
        have q1 := hTd.c1
        have f0 := hTr.frozen 0
        have f1 := hTr.frozen 1
        have e0 := hTr.c0
        have e1 := hTr.c1
        have t3 := (hTr.set0 (.slice a1 L1.length d1)).set1 (.slice a2 L2.length d2)
        have y0 := t3.c0
        have y1 := t3.c1
        have HE := hidP (box_end HU.out HZ.out.1 HZ.out.2.2 hqs)
        clear t3 hTr hTd
        go_wp2_with fail
        refine bodyPost_ret (v := .agg #[.slice a1 L1.length d1, .slice a2 L2.length d2]) (by simp [results, Try.results113, go_sem, y0, y1]) rfl ?_
        exact ⟨⟨_, _, _, _, rfl, HE.out.1, HE.out.2.1, HU.out.2.2.2, by omega, by omega⟩, HE.out.2.2.1, HE.out.2.2.2⟩
      | true =>
        have q00 := HU.out.1.c0
        by_cases h0 : L1.length = 0
        · have h0b : ¬ ((0 : Int) < (L1.length : Int)) := by omega
          have h0c : ¬ ((L1.length : Int) > 0) := by omega
          clear h0
          have hTr := HZ.out.2.1
          have hTd := HU.out.1
          have q0 := hTd.c0
          have q1 := hTd.c1
          have f0 := hTr.frozen 0
          have f1 := hTr.frozen 1
          have e0 := hTr.c0
          have e1 := hTr.c1
          have t3 := (hTr.set0 (.slice a1 L1.length d1)).set1 (.slice a2 L2.length d2)
          have y0 := t3.c0
          have y1 := t3.c1
          have HE := hidP (box_end HU.out HZ.out.1 HZ.out.2.2 hqs)
          clear t3 hTr hTd
          go_wp2_with fail
          refine bodyPost_ret (v := .agg #[.slice a1 L1.length d1, .slice a2 L2.length d2]) (by simp [results, Try.results113, go_sem, y0, y1]) rfl ?_
          exact ⟨⟨_, _, _, _, rfl, HE.out.1, HE.out.2.1, HU.out.2.2.2, by omega, by omega⟩, HE.out.2.2.1, HE.out.2.2.2⟩
        · have h0b : (L1.length : Int) > 0 := by omega
          have H0 := hidP h0
          have HF := hidP (cBelow q ao n cap 3 w1 HZ.out.1 (HV0.out.grown HC0.out HZ.out.2.2) hn (by omega) (by omega))
          clear h0
          go_wp2_with fail
          refine HF.out.mono ?_
          rintro e w2 ⟨⟨y, hy0, hy1, rfl⟩, c1, g1⟩
          have HU' := hidP (HU.out.cur g1 (by omega))
          have HZ' := hidP (And.intro c1 (And.intro (HZ.out.2.1.grown g1 (by simp; omega)) (grown_trans HZ.out.2.2 g1)))
          clear HU HZ HF c1 g1 q00
          have HU := HU'
          have HZ := HZ'
          clear HU' HZ'
          have h3 : y = 0 ∨ y = 1 ∨ y = 2 := by omega
          clear hy0 hy1
          rcases h3 with rfl | rfl | rfl
          · obtain ⟨g1, e1, hv1, hg1, hg1w, hc1, hf1, hun⟩ := HU.out.first (nth L2 0 + 1) H0.out
            obtain ⟨g2, e2, hv2, hg2, hg2w, hc2⟩ := HU.out.top (by have := HL.out; have := H0.out; omega)
            injection hv1 with hv1 _ hv1'
            injection hv2 with hv2 _ hv2'
            subst hv1 hv1' hv2 hv2'
            have hb := HN.out.2 (nth L2 0) (by
              have h5 : 0 < L2.length := by have := HL.out; have := H0.out; omega
              simp [nth, List.getD, h5])
            have hwx : IntKind.i64.wrap (nth L2 0 + 1) = nth L2 0 + 1 := IntWalk.i64_in _ ⟨by omega, by omega⟩
            have s0 := HU.out.1.c0
            have s1 := HU.out.1.c1
            have i1 : (0 : Int) < (L2.length : Int) := by have := HL.out; omega
            have i2 : (0 : Int) < (L1.length : Int) := h0b
            have i3 : L1 ≠ [] := by intro h; rw [h] at h0b; simp at h0b
            have i4 : L2 ≠ [] := by intro h; rw [h] at i1; simp at i1
            have i5 : 0 < L2.length := by omega
            have i6 : 0 < L1.length := by omega
            have HX := hidP (And.intro hun (And.intro (HZ.out.2.1.far (x := .int .i64 (nth L2 0 + 1)) (q := g1) (i := 0) (by omega)) (And.intro (HZ.out.1.grown (grown_setCell w2 g1 0 (.int .i64 (nth L2 0 + 1))) (by simp; omega)) (grown_far HZ.out.2.2 (grown_setCell w2 g1 0 (.int .i64 (nth L2 0 + 1))) (fun g hg => by cases hg; omega)))))
            clear hun HU HZ
            go_wp2_with fail
            refine wp_region_calm (S := fun X => X.cell? ⟨w.heap.size + 1, 0, none⟩ = some (.slice (some ⟨g1, 0, none⟩) L1.length d1) ∧ X.cell? ⟨w.heap.size + 1, 1, none⟩ = some (.slice (some ⟨g2, 0, none⟩) L2.length d2) ∧ X.cell? ⟨g2, 0, none⟩ = some (.int .i64 (nth L2 0))) (fuel := 1)
              [0, 1, 2, 3, 4, 5, 6] _ rfl (by kernel_rfl) (by kernel_rfl) (by kernel_rfl) (by kernel_rfl) (by kernel_rfl) (by kernel_rfl) (by kernel_rfl) ⟨s0, s1, hc2⟩ (fun hS => ?_)
            iterate 7
              refine ⟨_, rfl, ?_⟩
              apply Exists.intro
              refine ⟨Or.inl ⟨by rfl, fun w' hw' => ?_⟩, ?_⟩
              · first
                | (go_simp; done)
                | (go_simp; with_reducible rfl)
              simp only [Act.put, List.setIfInBounds_toArray]
            refine calm_one 7 (by kernel_rfl) rfl (fun K hK => ?_)
            go_simp
            refine hK.out _ _ hS (fun _ => ?_)
            clear hK K
            refine wpAnyH_done (by kernel_rfl) ?_ _
            simp only [Exit.then]
            go_wp2_with fail
            refine NoPanic.normal ?_
            obtain ⟨W3, hW3⟩ : ∃ W3, W3 = (w2.setCell ⟨g1, 0, none⟩ (.int .i64 (nth L2 0 + 1))).drew := ⟨_, rfl⟩
            rw [← hW3]
            have HU : Hid (Under (w.heap.size + 1) W3 (.slice (some ⟨g1, 0, none⟩) L1.length d1) (.slice (some ⟨g2, 0, none⟩) L2.length d2) (L1.set 0 (nth L2 0 + 1)) L2) := by rw [hW3]; exact HX.out.1
            have HZ : Hid (Cur W3 q ao n cap ∧ Two W3 w.heap.size (.slice none 0 0) (.slice none 0 0) 75 ∧ w.grownBy W3 (some q)) := by
              rw [hW3]; exact ⟨HX.out.2.2.1, HX.out.2.1, ⟨HX.out.2.2.2.os, HX.out.2.2.2.tape, HX.out.2.2.2.output, HX.out.2.2.2.size, HX.out.2.2.2.block⟩⟩
            clear HX hW3 hS s0 s1 hc1 hc2 hf1
            have hTr := HZ.out.2.1
            have hTd := HU.out.1
            have q0 := hTd.c0
            have q1 := hTd.c1
            have f0 := hTr.frozen 0
            have f1 := hTr.frozen 1
            have e0 := hTr.c0
            have e1 := hTr.c1
            have t3 := (hTr.set0 (.slice (some ⟨g1, 0, none⟩) L1.length d1)).set1 (.slice (some ⟨g2, 0, none⟩) L2.length d2)
            have y0 := t3.c0
            have y1 := t3.c1
            have HE := hidP (box_end HU.out HZ.out.1 HZ.out.2.2 hqs)
            clear t3 hTr hTd
            go_wp2_with fail
            refine bodyPost_ret (v := .agg #[.slice (some ⟨g1, 0, none⟩) L1.length d1, .slice (some ⟨g2, 0, none⟩) L2.length d2]) (by simp [results, Try.results113, go_sem, y0, y1]) rfl ?_
            exact ⟨⟨_, _, _, _, rfl, HE.out.1, HE.out.2.1, HU.out.2.2.2, by rw [List.length_set]; omega, by omega⟩, HE.out.2.2.1, HE.out.2.2.2⟩
          · have hO := HU.out.2.2.1.owns
            have HO := hidP hO
            have hDw := HU.out.1.lt
            have s1 := HU.out.1.c1
            clear hO
            go_wp2_with (at_builtin; refine wpList_append_lies _ rfl (.tmp 52) (.tmp 53) 46 rfl (w.heap.size + 1 + 1) 2 i0 _ 1 8 Try.underlying46 hi0 hz0 hz1 hz2 rfl (by omega) (.slice a2 L2.length d2) L2.length (L2.map (Value.int .i64)) rfl (World.ownsRow.alloc HO.out _) ⟨w2.heap.size, 0, none⟩ 1 1 [.int .i64 2] rfl rfl (World.news_of_block (cs := #[.int .i64 2]) (t := 2) (fr := (0, 0)) (heap_alloc_new w2 _)) (by simp [Value.oneCell']) (by omega) (by unfold maxLen; omega) (by omega) (by simp; omega) (w2.heap.size + 1) (by simp) ?_; intro gg cc w3 hown2 hgrow hat hlt1; have hTw := (HU.out.1.alloc (.cells #[.int .i64 2] 2)).grown hgrow (fun e => by have := HU.out.2.2.1.own _ e.symm; omega); have hTf := hTw.frozen 1; have hTc := hTw.c1; have r1 := hTw.c0; have tr := (HZ.out.2.1.alloc (.cells #[.int .i64 2] 2)).grown hgrow (fun e => by have := HU.out.2.2.1.own _ e.symm; omega); have r2 := ((tr.far (x := .slice (some ⟨gg, 0, none⟩) (L2.length + 1) cc) (q := w.heap.size + 1) (i := 1) (by omega)).frozen 0); have r3 := ((tr.far (x := .slice (some ⟨gg, 0, none⟩) (L2.length + 1) cc) (q := w.heap.size + 1) (i := 1) (by omega)).frozen 1); have r4 := ((tr.far (x := .slice (some ⟨gg, 0, none⟩) (L2.length + 1) cc) (q := w.heap.size + 1) (i := 1) (by omega)).c0); have r5 := ((tr.far (x := .slice (some ⟨gg, 0, none⟩) (L2.length + 1) cc) (q := w.heap.size + 1) (i := 1) (by omega)).c1))
            have hun := HU.out.high (alloc_below w2 (.cells #[.int .i64 2] 2)) (x := 2) hown2 hgrow (by simpa using hat)
            have c2 := (HZ.out.1.alloc (.cells #[.int .i64 2] 2)).grown hgrow (fun e => by have := HU.out.2.2.1.own _ e.symm; omega)
            have G2 := grown_far (grown_far HZ.out.2.2 (World.grownBy_alloc w2 (.cells #[.int .i64 2] 2) none) (by simp)) hgrow (fun g hg => by have := HU.out.2.2.1.own g hg; omega)
            have HE := box_end hun (c2.grown (grown_setCell w3 (w.heap.size + 1) 1 (.slice (some ⟨gg, 0, none⟩) (L2.length + 1) cc)) (by simp; omega)) (grown_far G2 (grown_setCell w3 (w.heap.size + 1) 1 (.slice (some ⟨gg, 0, none⟩) (L2.length + 1) cc)) (fun g hg => by cases hg; omega)) hqs
            have t5 := ((tr.far (x := .slice (some ⟨gg, 0, none⟩) (L2.length + 1) cc) (q := w.heap.size + 1) (i := 1) (by omega)).set0 (.slice a1 L1.length d1)).set1 (.slice (some ⟨gg, 0, none⟩) (L2.length + 1) cc)
            have y0 := t5.c0
            have y1 := t5.c1
            refine bodyPost_ret (v := .agg #[.slice a1 L1.length d1, .slice (some ⟨gg, 0, none⟩) (L2.length + 1) cc]) (by simp [results, Try.results113, go_sem, y0, y1]) rfl ?_
            exact ⟨⟨_, _, _, _, rfl, HE.1, HE.2.1, hun.2.2.2, by omega, by simp; omega⟩, HE.2.2.1, HE.2.2.2⟩
          · have HB := hidP (cBelow q ao n cap 2 w2.drew HZ.out.1.drew (HV0.out.grown HC0.out HZ.out.2.2 : CodeV w2 ao n) hn (by omega) (by omega))
            have s0 := HU.out.1.c0
            have i2 : (0 : Int) < (L1.length : Int) := h0b
            have i3 : L1 ≠ [] := by intro h; rw [h] at h0b; simp at h0b
            have i6 : 0 < L1.length := by omega
            go_wp2_with fail
            refine wp_region_calm (S := fun X => X.cell? ⟨w.heap.size + 1, 0, none⟩ = some (.slice a1 L1.length d1)) (fuel := 3)
              [0, 1, 2] _ rfl (by kernel_rfl) (by kernel_rfl) (by kernel_rfl) (by kernel_rfl) (by kernel_rfl) (by kernel_rfl) (by kernel_rfl) s0 (fun hS => ?_)
            iterate 3
              refine ⟨_, rfl, ?_⟩
              apply Exists.intro
              refine ⟨Or.inl ⟨by rfl, fun w' hw' => ?_⟩, ?_⟩
              · first
                | (go_simp; done)
                | (go_simp; with_reducible rfl)
              simp only [Act.put, List.setIfInBounds_toArray]
            refine calm_one 3 (by kernel_rfl) rfl (fun K hK => ?_)
            go_simp
            refine HB.out.mono ?_
            rintro e w3 ⟨⟨z, hz0', hz1', rfl⟩, c4, g4⟩
            have g5 : w2.grownBy w3 (some q) := ⟨g4.os, g4.tape, g4.output, g4.size, g4.block⟩
            have hu3 := HU.out.cur g5 (by omega)
            have HZ3 := hidP (And.intro c4 (And.intro (HZ.out.2.1.grown g5 (by simp; omega)) (grown_trans HZ.out.2.2 g5)))
            have s1 := hu3.1.c0
            refine hK.out _ _ s1 (fun _ => ?_)
            clear hK K
            obtain ⟨g1, e1, hv1, hg1, hg1w, hc1, hf1, hun⟩ := hu3.first (-1000 - z) H0.out
            injection hv1 with hv1 _ hv1'
            subst hv1 hv1'
            have hwx : IntKind.i64.wrap (-1000 - z) = -1000 - z := IntWalk.i64_in _ ⟨by omega, by omega⟩
            have HX := hidP (And.intro hun (And.intro (HZ3.out.2.1.far (x := .int .i64 (-1000 - z)) (q := g1) (i := 0) (by omega)) (And.intro (HZ3.out.1.grown (grown_setCell w3 g1 0 (.int .i64 (-1000 - z))) (by simp; omega)) (grown_far HZ3.out.2.2 (grown_setCell w3 g1 0 (.int .i64 (-1000 - z))) (fun g hg => by cases hg; omega)))))
            clear hun hu3 c4 g4 g5 HU HZ HB s0 HZ3 hS
            refine calm_one 4 (by kernel_rfl) rfl (fun K hK => ?_)
            go_simp
            refine hK.out _ _ s1 (fun _ => ?_)
            clear hK K
            refine calm_one 5 (by kernel_rfl) rfl (fun K hK => ?_)
            go_simp
            refine hK.out _ _ s1 (fun _ => ?_)
            clear hK K
            refine wpAnyH_done (by kernel_rfl) ?_ _
            simp only [Exit.then]
            go_wp2_with fail
            refine NoPanic.normal ?_
            obtain ⟨W3, hW3⟩ : ∃ W3, W3 = w3.setCell ⟨g1, 0, none⟩ (.int .i64 (-1000 - z)) := ⟨_, rfl⟩
            rw [← hW3] at HX ⊢
            have HU := hidP HX.out.1
            have HZ : Hid (Cur W3 q ao n cap ∧ Two W3 w.heap.size (.slice none 0 0) (.slice none 0 0) 75 ∧ w.grownBy W3 (some q)) := ⟨HX.out.2.2.1, HX.out.2.1, HX.out.2.2.2⟩
            clear HX hW3 s1 hc1 hf1
            have hTr := HZ.out.2.1
            have hTd := HU.out.1
            have q0 := hTd.c0
            have q1 := hTd.c1
            have f0 := hTr.frozen 0
            have f1 := hTr.frozen 1
            have e0 := hTr.c0
            have e1 := hTr.c1
            have t3 := (hTr.set0 (.slice (some ⟨g1, 0, none⟩) L1.length d1)).set1 (.slice a2 L2.length d2)
            have y0 := t3.c0
            have y1 := t3.c1
            have HE := hidP (box_end HU.out HZ.out.1 HZ.out.2.2 hqs)
            clear t3 hTr hTd
            go_wp2_with fail
            refine bodyPost_ret (v := .agg #[.slice (some ⟨g1, 0, none⟩) L1.length d1, .slice a2 L2.length d2]) (by simp [results, Try.results113, go_sem, y0, y1]) rfl ?_
            exact ⟨⟨_, _, _, _, rfl, HE.out.1, HE.out.2.1, HU.out.2.2.2, by rw [List.length_set]; omega, by omega⟩, HE.out.2.2.1, HE.out.2.2.2⟩

end Go.Proofs.Ythddhblmnfjciaa
