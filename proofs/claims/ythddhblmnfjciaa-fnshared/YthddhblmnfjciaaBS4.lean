/-
  The given Shared.
-/
import Derived.Test.YthddhblmnfjciaaBI5
import Derived.Test.YthddhblmnfjciaaBS3
namespace Go.Proofs.Ythddhblmnfjciaa
open Go Go.RowKit

theorem IOut.owns {base : Nat} {w : World} {v : Value} {xs : List Int} (h : IOut base w v xs) : w.ownsRow base 2 1 v xs.length (xs.map (Value.int .i64)) := by
  rcases h with ⟨rfl, rfl⟩ | ⟨g, c, rfl, hr⟩
  · exact ⟨by simp, Or.inl ⟨rfl, rfl⟩⟩
  · exact hr
theorem IOut.own {base : Nat} {w : World} {v : Value} {xs : List Int} (h : IOut base w v xs) : ∀ k, v.ownBlock = some k → base ≤ k ∧ k < w.heap.size := fun k hk => World.ownsRow.lt h.owns k hk
theorem Two.grown {w w' : World} {p : Nat} {u v : Value} {t : TypeId} {r : Option Nat} (h : Two w p u v t) (hg : w.grownBy w' r) (hr : some p ≠ r) : Two w' p u v t := (hg.block p h.lt hr).trans h
theorem IOut.kept {base : Nat} {w w' : World} {v : Value} {xs : List Int} {r : Option Nat} (h : IOut base w v xs) (hg : w.grownBy w' r) (hr : ∀ k, v.ownBlock = some k → some k ≠ r) : IOut base w' v xs :=
  h.imp id fun ⟨g, c, e, hr'⟩ => ⟨g, c, e, hr'.kept hg (hr g (by rw [e]; rfl))⟩
theorem Apart.own {v u : Value} (h : Apart v u) : ∀ k, u.ownBlock = some k → some k ≠ v.ownBlock := fun k hk e => by
  cases v with
  | slice a n c =>
    cases a with
    | none => cases e
    | some a =>
      cases u with
      | slice b m d =>
        cases b with
        | none => cases hk
        | some b =>
          simp only [Value.ownBlock, Option.some.injEq] at hk e
          exact h a n c b m d rfl rfl (by omega)
      | _ => cases hk
  | _ => cases e

/-- A box under way: its block D, and in it two rows that are appended to. -/
def Under (D : Nat) (w : World) (v1 v2 : Value) (L1 L2 : List Int) : Prop := Two w D v1 v2 75 ∧ IOut (D + 1) w v1 L1 ∧ IOut (D + 1) w v2 L2 ∧ Apart v1 v2
theorem apart_new {v u : Value} {g n c : Nat} {base base' H : Nat} {w : World} {xs : List Int} (ha : Apart v u) (hu : IOut base w u xs) (hH : w.heap.size ≤ H) (hat : v.ownBlock = some g ∨ g = H) (_hb : base' ≤ g) : Apart (.slice (some ⟨g, 0, none⟩) n c) u := by
  intro a n' c' b m d e1 e2
  injection e1 with e3 _ _
  injection e3 with e3
  rw [← e3]
  have hk : u.ownBlock = some b.block := by rw [e2]; rfl
  have h1 := hu.own b.block hk
  have h2 := ha.own b.block hk
  intro e4
  rcases hat with h | h
  · rw [h] at h2; exact h2 (by rw [← e4])
  · have e5 : g = b.block := e4
    omega
theorem Under.low {D : Nat} {w W w1 : World} {v1 v2 : Value} {L1 L2 : List Int} {g c : Nat} {x : Int} (h : Under D w v1 v2 L1 L2) (hW : Below w.heap.size w W)
    (hown : w1.ownsRow (D + 1) 2 1 (.slice (some ⟨g, 0, none⟩) (L1.length + 1) c) (L1.length + 1) (L1.map (Value.int .i64) ++ [.int .i64 x])) (hg : W.grownBy w1 v1.ownBlock) (hat : v1.ownBlock = some g ∨ g = W.heap.size) :
    Under D (w1.setCell ⟨D, 0, none⟩ (.slice (some ⟨g, 0, none⟩) (L1.length + 1) c)) (.slice (some ⟨g, 0, none⟩) (L1.length + 1) c) v2 (L1 ++ [x]) L2 := by
  obtain ⟨t, o1, o2, ap⟩ := h
  have hb := World.ownsRow.lt hown g rfl
  have hD : some D ≠ v1.ownBlock := fun e => by have := o1.own D e.symm; omega
  have t1 := (t.below hW).grown hg hD
  have p2 := (o2.below hW).kept hg (fun k hk => ap.own k hk)
  refine ⟨t1.set0 _, Or.inr ⟨g, c, by simp, ?_⟩, p2.kept (grown_setCell _ D 0 _) (fun k hk => by have := o2.own k hk; simp; omega), apart_new ap (o2.below hW) (Nat.le_refl _) hat hb.1⟩
  exact (IRow.of hown (by simp) (by simp)).kept (grown_setCell _ D 0 _) (by simp; omega)
theorem Under.high {D : Nat} {w W w1 : World} {v1 v2 : Value} {L1 L2 : List Int} {g c : Nat} {x : Int} (h : Under D w v1 v2 L1 L2) (hW : Below w.heap.size w W)
    (hown : w1.ownsRow (D + 1) 2 1 (.slice (some ⟨g, 0, none⟩) (L2.length + 1) c) (L2.length + 1) (L2.map (Value.int .i64) ++ [.int .i64 x])) (hg : W.grownBy w1 v2.ownBlock) (hat : v2.ownBlock = some g ∨ g = W.heap.size) :
    Under D (w1.setCell ⟨D, 1, none⟩ (.slice (some ⟨g, 0, none⟩) (L2.length + 1) c)) v1 (.slice (some ⟨g, 0, none⟩) (L2.length + 1) c) L1 (L2 ++ [x]) := by
  obtain ⟨t, o1, o2, ap⟩ := h
  have hb := World.ownsRow.lt hown g rfl
  have hD : some D ≠ v2.ownBlock := fun e => by have := o2.own D e.symm; omega
  have t1 := (t.below hW).grown hg hD
  have p1 := (o1.below hW).kept hg (fun k hk => ap.symm.own k hk)
  refine ⟨t1.set1 _, p1.kept (grown_setCell _ D 1 _) (fun k hk => by have := o1.own k hk; simp; omega), Or.inr ⟨g, c, by simp, ?_⟩, (apart_new ap.symm (o1.below hW) (Nat.le_refl _) hat hb.1).symm⟩
  exact (IRow.of hown (by simp) (by simp)).kept (grown_setCell _ D 1 _) (by simp; omega)

set_option maxRecDepth 100000 in
set_option maxHeartbeats 4000000 in
theorem sShared (a1 a2 b1 b2 : Option Addr) (c1 c2 d1 d2 : Nat) (lo hi lo' hi' : List Int) (w : World) (h1 : View w a1 lo) (h2 : View w a2 hi) (h3 : View w b1 lo') (h4 : View w b2 hi') (n1 : lo.length ≤ 1048576) (n2 : hi.length ≤ 1048576) (n3 : lo'.length ≤ 1048576) (n4 : hi'.length ≤ 1048576) :
    Calls Try.prog 60 #[.agg #[.slice a1 lo.length c1, .slice a2 hi.length c2], .agg #[.slice b1 lo'.length d1, .slice b2 hi'.length d2]] w fun e w' => ∃ x1 e1 x2 e2, e = .returned (.tuple #[.agg #[.slice x1 (sharedV (lo, hi) (lo', hi')).1.length e1, .slice x2 (sharedV (lo, hi) (lo', hi')).2.length e2], .bool (shOkB (lo, hi) (lo', hi'))]) ∧ IOut w.heap.size w' (.slice x1 (sharedV (lo, hi) (lo', hi')).1.length e1) (sharedV (lo, hi) (lo', hi')).1 ∧ IOut w.heap.size w' (.slice x2 (sharedV (lo, hi) (lo', hi')).2.length e2) (sharedV (lo, hi) (lo', hi')).2 ∧ Below w.heap.size w w' := by
  obtain ⟨W, hW⟩ : ∃ W, W = ((w.alloc (.cells #[.slice a1 lo.length c1, .slice a2 hi.length c2] 75)).alloc (.cells #[.slice b1 lo'.length d1, .slice b2 hi'.length d2] 75)).alloc (.cells #[.slice none 0 0, .slice none 0 0] 75) := ⟨_, rfl⟩
  have hB : Below w.heap.size w W := by rw [hW]; exact below_alloc (below_alloc (alloc_below w _) _) _
  have t0 : Two W w.heap.size (.slice a1 lo.length c1) (.slice a2 hi.length c2) 75 := by rw [hW]; exact ((Two.new w _ _ _).alloc _).alloc _
  have t1 : Two W (w.heap.size + 1) (.slice b1 lo'.length d1) (.slice b2 hi'.length d2) 75 := by rw [hW]; exact Two.made1.alloc _
  have t2 : Two W (w.heap.size + 1 + 1) (.slice none 0 0) (.slice none 0 0) 75 := by rw [hW]; exact Two.made2
  have hnone : ∀ (w2 : World), Below w.heap.size w w2 → shOkB (lo, hi) (lo', hi') = false → ∃ x1 e1 x2 e2, Ending.returned (.tuple #[.agg #[.slice none 0 0, .slice none 0 0], .bool false]) = Ending.returned (.tuple #[.agg #[.slice x1 (sharedV (lo, hi) (lo', hi')).1.length e1, .slice x2 (sharedV (lo, hi) (lo', hi')).2.length e2], .bool (shOkB (lo, hi) (lo', hi'))]) ∧ IOut w.heap.size w2 (.slice x1 (sharedV (lo, hi) (lo', hi')).1.length e1) (sharedV (lo, hi) (lo', hi')).1 ∧ IOut w.heap.size w2 (.slice x2 (sharedV (lo, hi) (lo', hi')).2.length e2) (sharedV (lo, hi) (lo', hi')).2 ∧ Below w.heap.size w w2 := fun w2 hb hv => by
    rw [shared_no hv, hv]
    exact ⟨none, 0, none, 0, rfl, Or.inl ⟨rfl, rfl⟩, Or.inl ⟨rfl, rfl⟩, hb⟩
  have HNO := hidP hnone
  have HC := hidP (sBoxOk a1 a2 c1 c2 lo hi W (h1.next hB) (h2.next hB) n1 n2)
  have HB := hidP (And.intro hB (And.intro t0 (And.intro t1 t2)))
  have q0 := t0.c0
  have q1 := t0.c1
  clear hnone hB t0 t1 t2
  rcases ha : boxB (lo, hi) with _ | _
  · rw [ha] at HC
    have HV := hidP (sh_no1 (b := (lo', hi')) ha)
    rw [hW] at q0 q1
    go_enter Try.func60, Try.ntmps60
    go_wp2_with fail
    rw [← hW]
    clear hW q0 q1
    refine HC.out.mono ?_
    rintro e w2 ⟨rfl, L2⟩
    have t2 := HB.out.2.2.2.below L2
    have L3 := chain HB.out.1 L2
    have f0 := t2.frozen 0
    have f1 := t2.frozen 1
    have e0 := t2.c0
    have e1 := t2.c1
    have t3 := (t2.set0 (.slice none 0 0)).set1 (.slice none 0 0)
    have g0 := t3.c0
    have g1 := t3.c1
    have HT := hidP (set_below (set_below L3 (show w.heap.size ≤ w.heap.size + 1 + 1 by omega) (.slice none 0 0) (i := 0)) (show w.heap.size ≤ w.heap.size + 1 + 1 by omega) (.slice none 0 0) (i := 1))
    clear t2 L2 L3 t3 HC
    go_wp2_with fail
    exact bodyPost_ret (v := .tuple #[.agg #[.slice none 0 0, .slice none 0 0], .bool false]) (by simp [results, Try.results60, go_sem, g0, g1]) rfl (HNO.out _ HT.out HV.out)
  · rw [ha] at HC
    rw [hW] at q0 q1
    go_enter Try.func60, Try.ntmps60
    go_wp2_with fail
    rw [← hW]
    clear hW q0 q1
    refine HC.out.mono ?_
    rintro e w2 ⟨rfl, L2⟩
    have L3 := chain HB.out.1 L2
    have HB2 := hidP (And.intro L3 (And.intro (HB.out.2.1.below L2) (And.intro (HB.out.2.2.1.below L2) (HB.out.2.2.2.below L2))))
    have q0 := HB2.out.2.1.c0
    have q1 := HB2.out.2.1.c1
    have q2 := HB2.out.2.2.1.c0
    have q3 := HB2.out.2.2.1.c1
    have HT := hidP (sBoxOk b1 b2 d1 d2 lo' hi' w2 (h3.next L3) (h4.next L3) n3 n4)
    clear L2 L3 HB HC
    rcases hb : boxB (lo', hi') with _ | _
    · rw [hb] at HT
      have HV : Hid (shOkB (lo, hi) (lo', hi') = false) := by show _ = _; simp [shOkB, hb]
      go_wp2_with fail
      refine HT.out.mono ?_
      rintro e w3 ⟨rfl, L3⟩
      have t2 := HB2.out.2.2.2.below L3
      have L4 := chain HB2.out.1 L3
      have f0 := t2.frozen 0
      have f1 := t2.frozen 1
      have e0 := t2.c0
      have e1 := t2.c1
      have t3 := (t2.set0 (.slice none 0 0)).set1 (.slice none 0 0)
      have g0 := t3.c0
      have g1 := t3.c1
      have HX := hidP (set_below (set_below L4 (show w.heap.size ≤ w.heap.size + 1 + 1 by omega) (.slice none 0 0) (i := 0)) (show w.heap.size ≤ w.heap.size + 1 + 1 by omega) (.slice none 0 0) (i := 1))
      clear t2 L3 L4 t3 HT q0 q1 q2 q3
      go_wp2_with fail
      exact bodyPost_ret (v := .tuple #[.agg #[.slice none 0 0, .slice none 0 0], .bool false]) (by simp [results, Try.results60, go_sem, g0, g1]) rfl (HNO.out _ HX.out HV.out)
    · rw [hb] at HT
      by_cases hlen : lo.length = lo'.length
      · have HV : Hid (shOkB (lo, hi) (lo', hi') = boxB (shBox (lo, hi) (lo', hi'))) := by show _ = _; simp [shOkB, ha, hb, hlen]
        obtain ⟨oa, oh, hl⟩ := twoB_of (boxB_two ha)
        obtain ⟨ob, oh', hl2⟩ := twoB_of (boxB_two hb)
        have h4' : 1 ≤ lo.length ∧ lo.length ≤ 4 := okB_len oa
        have hl' : lo.length = hi.length := hl
        have hl2' : lo'.length = hi'.length := hl2
        obtain ⟨ba, oa1, rfl, hba, s1⟩ := h1.seg (by omega)
        obtain ⟨bb, oa2, rfl, hbb, s2⟩ := h2.seg (by omega)
        obtain ⟨bc, oa3, rfl, hbc, s3⟩ := h3.seg (by omega)
        obtain ⟨bd, oa4, rfl, hbd, s4⟩ := h4.seg (by omega)
        have HS := hidP (And.intro s1 (And.intro s2 (And.intro s3 s4)))
        have HLN : Hid (hi.length = lo.length ∧ lo'.length = lo.length ∧ hi'.length = lo.length) := ⟨by omega, by omega, by omega⟩
        have hlb : ((lo.length : Int) != (lo.length : Int)) = false := by simp
        obtain ⟨i0, hi0, hz0, hz1, hz2⟩ := info_parts Try.info2
        clear hl hl2 hl' hl2' s1 s2 s3 s4 h1 h2 h3 h4 oa ob oh oh' hlen
        go_wp2_with fail
        refine HT.out.mono ?_
        rintro e w3 ⟨rfl, L3⟩
        have HB3 := hidP (And.intro (chain HB2.out.1 L3) (And.intro (HB2.out.2.1.below L3) (And.intro (HB2.out.2.2.1.below L3) (HB2.out.2.2.2.below L3))))
        clear q0 q1 q2 q3 L3 HB2 HT
        simp only [HLN.out.1, HLN.out.2.1, HLN.out.2.2] at HB3 ⊢
        have q0 := HB3.out.2.1.c0
        have q2 := HB3.out.2.2.1.c0
        have hzr := HB3.out.2.2.2.lt
        go_wp2_with fail
        clear q0 q2
        go_loopw [7] (fun i wr => ∃ (k : Nat) (v1 v2 : Value), k ≤ lo.length ∧ i = .int .i64 k ∧ Under w3.heap.size wr v1 v2 (tabL (shLow (lo, hi) (lo', hi')) k) (tabL (shHigh (lo, hi) (lo', hi')) k) ∧ Below w3.heap.size w3 wr) (fun i _ => lo.length - (intOf i).toNat)
        case atStart => exact ⟨0, .slice none 0 0, .slice none 0 0, Nat.zero_le _, rfl, ⟨Two.new w3 _ _ _, Or.inl ⟨rfl, rfl⟩, Or.inl ⟨rfl, rfl⟩, fun a n c b m d h _ => (by cases h)⟩, alloc_below w3 _⟩
        case round =>
          obtain ⟨k, v1, v2, hk, rfl, hu, L⟩ := hrel
          have HU := hidP hu
          have HL := hidP L
          have x0 := (HB3.out.2.1.below L).c0
          clear hu L
          by_cases hlt : k < lo.length
          · have Lw := chain HB3.out.1 HL.out
            have hzw := HL.out.size
            have hDw := HU.out.1.lt
            have z0a := (HB3.out.2.1.below HL.out).c0
            have z0b := (HB3.out.2.2.1.below HL.out).c0
            have z0c := (Lw.cell (p := ⟨ba, oa1 + k, none⟩) hba).trans (HS.out.1 k hlt)
            have z0d := (Lw.cell (p := ⟨bc, oa3 + k, none⟩) hbc).trans (HS.out.2.2.1 k (by rw [HLN.out.2.1]; exact hlt))
            have hO := HU.out.2.1.owns
            rw [tabL_length] at hO
            have HO0 := hidP hO
            have i1 : (0 : Int) ≤ (k : Int) := by omega
            have i2 : (k : Int) < (lo.length : Int) := by omega
            clear hO Lw
            have hSK : ∀ X : World, (∀ i, i < w3.heap.size + 1 → X.heap[i]? = wr.heap[i]?) → (X.cell? ⟨w3.heap.size, 0, none⟩ = some v1 ∧ X.cell? ⟨w.heap.size, 0, none⟩ = some (.slice (some ⟨ba, oa1, none⟩) lo.length c1) ∧ X.cell? ⟨w.heap.size + 1, 0, none⟩ = some (.slice (some ⟨bc, oa3, none⟩) lo.length d1) ∧ X.cell? ⟨ba, oa1 + k, none⟩ = some (.int .i64 (nth lo k)) ∧ X.cell? ⟨bc, oa3 + k, none⟩ = some (.int .i64 (nth lo' k))) := fun X hX =>
              ⟨(World.cell?_of_block (w := wr) (a := ⟨w3.heap.size, 0, none⟩) (hX _ (by simp))).trans HU.out.1.c0, (World.cell?_of_block (w := wr) (a := ⟨w.heap.size, 0, none⟩) (hX _ (by simp; omega))).trans z0a, (World.cell?_of_block (w := wr) (a := ⟨w.heap.size + 1, 0, none⟩) (hX _ (by simp; omega))).trans z0b, (World.cell?_of_block (w := wr) (a := ⟨ba, oa1 + k, none⟩) (hX _ (by simp; omega))).trans z0c, (World.cell?_of_block (w := wr) (a := ⟨bc, oa3 + k, none⟩) (hX _ (by simp; omega))).trans z0d⟩
            have SK := hidP hSK
            clear hSK
            have hS0 := SK.out wr (fun i _ => rfl)
            go_wp2_with fail
            refine wp_region_calm (S := fun X => (X.cell? ⟨w3.heap.size, 0, none⟩ = some v1 ∧ X.cell? ⟨w.heap.size, 0, none⟩ = some (.slice (some ⟨ba, oa1, none⟩) lo.length c1) ∧ X.cell? ⟨w.heap.size + 1, 0, none⟩ = some (.slice (some ⟨bc, oa3, none⟩) lo.length d1) ∧ X.cell? ⟨ba, oa1 + k, none⟩ = some (.int .i64 (nth lo k)) ∧ X.cell? ⟨bc, oa3 + k, none⟩ = some (.int .i64 (nth lo' k)))) (fuel := 4)
              [0, 1, 2, 3, 4, 5, 6, 7, 8, 9, 10, 11] _ rfl (by kernel_rfl) (by kernel_rfl) (by kernel_rfl) (by kernel_rfl) (by kernel_rfl) (by kernel_rfl) (by kernel_rfl) hS0 (fun hS => ?_)
            iterate 12
              refine ⟨_, rfl, ?_⟩
              apply Exists.intro
              refine ⟨Or.inl ⟨by rfl, fun w' hw' => ?_⟩, ?_⟩
              · first
                | (go_simp; done)
                | (go_simp; with_reducible rfl)
              simp only [Act.put, List.setIfInBounds_toArray]
            refine calm_one 12 (by kernel_rfl) rfl (fun K hK => ?_)
            go_simp
            refine (sMax _ _ _).mono ?_
            rintro e w' ⟨rfl, hw'⟩
            subst w'
            refine hK.out _ _ hS (fun _ => ?_)
            clear hK K
            refine calm_one 13 (by kernel_rfl) rfl (fun K hK => ?_)
            go_simp
            refine hK.out _ _ (SK.out _ (fun i hi => (alloc_below wr _).block i (by omega))) (fun _ => ?_)
            clear hK K
            refine calm_one 14 (by kernel_rfl) rfl (fun K hK => ?_)
            refine step_append_lies _ (by rfl) _ _ _ (by rfl) (w3.heap.size + 1) 2 i0 _ 1 8 Try.underlying46 hi0 hz0 hz1 hz2 rfl (by omega) v1 k _ (by rfl) (HO0.out.alloc _).drew ⟨wr.heap.size, 0, none⟩ 1 1 [.int .i64 (maxV (nth lo k) (nth lo' k))] (by rfl) (by rfl) (World.news_of_block (cs := #[.int .i64 (maxV (nth lo k) (nth lo' k))]) (t := 2) (fr := (0, 0)) (heap_alloc_new wr _)) (by simp [Value.oneCell']) (by omega) (by unfold maxLen; omega) (by omega) (by simp; omega) (wr.heap.size + 1) (by simp) ?_
            intro gg cc w6 hown1 hgrow hat hlt1
            have hblk : ∀ i, i < w3.heap.size + 1 → w6.heap[i]? = wr.heap[i]? := fun i hi => (hgrow.block i (by simp; omega) (fun e => by have := HU.out.2.1.own i e.symm; omega)).trans ((alloc_below wr _).block i (by omega))
            refine hK.out _ _ (SK.out _ hblk) (fun _ => ?_)
            clear hK K
            refine calm_one 15 (by kernel_rfl) rfl (fun K hK => ?_)
            go_simp
            refine hK.out _ _ (SK.out _ hblk) (fun _ => ?_)
            clear hK K
            refine wpAnyH_done (by kernel_rfl) ?_ _
            simp only [Exit.then]
            have hTw : Two w6 w3.heap.size (v1) v2 75 := (hblk _ (by omega)).trans HU.out.1
            have hTf := hTw.frozen 0
            have hTc := hTw.c0
            have hun := HU.out.low (alloc_below wr (.cells #[.int .i64 (maxV (nth lo k) (nth lo' k))] 2)).drew (x := maxV (nth lo k) (nth lo' k)) (by rw [tabL_length]; exact hown1) hgrow (by simpa using hat)
            rw [tabL_length] at hun
            have HL2 : Hid (Below w3.heap.size w3 (w6.setCell ⟨w3.heap.size, 0, none⟩ (.slice (some ⟨gg, 0, none⟩) (k + 1) cc))) := set_below ((below_alloc HL.out _).drew.grown hgrow (by simp; omega) (fun q hq => by have := HU.out.2.1.own q hq; omega)) (Nat.le_refl _) _
            have HU2 : Hid (Under w3.heap.size (w6.setCell ⟨w3.heap.size, 0, none⟩ (.slice (some ⟨gg, 0, none⟩) (k + 1) cc)) (.slice (some ⟨gg, 0, none⟩) (k + 1) cc) v2 (tabL (shLow (lo, hi) (lo', hi')) (k + 1)) (tabL (shHigh (lo, hi) (lo', hi')) k)) := by rw [tabL_succ]; exact hun
            clear hun hblk hgrow hat hown1 hlt1 hTw
            go_wp2_with fail
            refine NoPanic.normal ?_
            obtain ⟨W1, hW1⟩ : ∃ W1, W1 = w6.setCell ⟨w3.heap.size, 0, none⟩ (.slice (some ⟨gg, 0, none⟩) (k + 1) cc) := ⟨_, rfl⟩
            rw [← hW1] at HU2 HL2 ⊢
            clear hW1 SK HU HL HO0 hTf hTc hS hS0 x0 z0a z0b z0c z0d hzw hDw
            have Lw := chain HB3.out.1 HL2.out
            have hzw := HL2.out.size
            have hDw := HU2.out.1.lt
            have z1a := (HB3.out.2.1.below HL2.out).c1
            have z1b := (HB3.out.2.2.1.below HL2.out).c1
            have z1c := (Lw.cell (p := ⟨bb, oa2 + k, none⟩) hbb).trans (HS.out.2.1 k (by rw [HLN.out.1]; exact hlt))
            have z1d := (Lw.cell (p := ⟨bd, oa4 + k, none⟩) hbd).trans (HS.out.2.2.2 k (by rw [HLN.out.2.2]; exact hlt))
            have hO := HU2.out.2.2.1.owns
            rw [tabL_length] at hO
            have HO1 := hidP hO
            clear hO Lw
            have hSK : ∀ X : World, (∀ i, i < w3.heap.size + 1 → X.heap[i]? = W1.heap[i]?) → (X.cell? ⟨w3.heap.size, 1, none⟩ = some v2 ∧ X.cell? ⟨w.heap.size, 1, none⟩ = some (.slice (some ⟨bb, oa2, none⟩) lo.length c2) ∧ X.cell? ⟨w.heap.size + 1, 1, none⟩ = some (.slice (some ⟨bd, oa4, none⟩) lo.length d2) ∧ X.cell? ⟨bb, oa2 + k, none⟩ = some (.int .i64 (nth hi k)) ∧ X.cell? ⟨bd, oa4 + k, none⟩ = some (.int .i64 (nth hi' k))) := fun X hX =>
              ⟨(World.cell?_of_block (w := W1) (a := ⟨w3.heap.size, 1, none⟩) (hX _ (by simp))).trans HU2.out.1.c1, (World.cell?_of_block (w := W1) (a := ⟨w.heap.size, 1, none⟩) (hX _ (by simp; omega))).trans z1a, (World.cell?_of_block (w := W1) (a := ⟨w.heap.size + 1, 1, none⟩) (hX _ (by simp; omega))).trans z1b, (World.cell?_of_block (w := W1) (a := ⟨bb, oa2 + k, none⟩) (hX _ (by simp; omega))).trans z1c, (World.cell?_of_block (w := W1) (a := ⟨bd, oa4 + k, none⟩) (hX _ (by simp; omega))).trans z1d⟩
            have SK := hidP hSK
            clear hSK
            have hS0 := SK.out W1 (fun i _ => rfl)
            go_wp2_with fail
            refine wp_region_calm (S := fun X => (X.cell? ⟨w3.heap.size, 1, none⟩ = some v2 ∧ X.cell? ⟨w.heap.size, 1, none⟩ = some (.slice (some ⟨bb, oa2, none⟩) lo.length c2) ∧ X.cell? ⟨w.heap.size + 1, 1, none⟩ = some (.slice (some ⟨bd, oa4, none⟩) lo.length d2) ∧ X.cell? ⟨bb, oa2 + k, none⟩ = some (.int .i64 (nth hi k)) ∧ X.cell? ⟨bd, oa4 + k, none⟩ = some (.int .i64 (nth hi' k)))) (fuel := 4)
              [0, 1, 2, 3, 4, 5, 6, 7, 8, 9, 10, 11] _ rfl (by kernel_rfl) (by kernel_rfl) (by kernel_rfl) (by kernel_rfl) (by kernel_rfl) (by kernel_rfl) (by kernel_rfl) hS0 (fun hS => ?_)
            iterate 12
              refine ⟨_, rfl, ?_⟩
              apply Exists.intro
              refine ⟨Or.inl ⟨by rfl, fun w' hw' => ?_⟩, ?_⟩
              · first
                | (go_simp; done)
                | (go_simp; with_reducible rfl)
              simp only [Act.put, List.setIfInBounds_toArray]
            refine calm_one 12 (by kernel_rfl) rfl (fun K hK => ?_)
            go_simp
            refine (sMin _ _ _).mono ?_
            rintro e w' ⟨rfl, hw'⟩
            subst w'
            refine hK.out _ _ hS (fun _ => ?_)
            clear hK K
            refine calm_one 13 (by kernel_rfl) rfl (fun K hK => ?_)
            go_simp
            refine hK.out _ _ (SK.out _ (fun i hi => (alloc_below W1 _).block i (by omega))) (fun _ => ?_)
            clear hK K
            refine calm_one 14 (by kernel_rfl) rfl (fun K hK => ?_)
            refine step_append_lies _ (by rfl) _ _ _ (by rfl) (w3.heap.size + 1) 2 i0 _ 1 8 Try.underlying46 hi0 hz0 hz1 hz2 rfl (by omega) v2 k _ (by rfl) (HO1.out.alloc _).drew ⟨W1.heap.size, 0, none⟩ 1 1 [.int .i64 (min (nth hi k) (nth hi' k))] (by rfl) (by rfl) (World.news_of_block (cs := #[.int .i64 (min (nth hi k) (nth hi' k))]) (t := 2) (fr := (0, 0)) (heap_alloc_new W1 _)) (by simp [Value.oneCell']) (by omega) (by unfold maxLen; omega) (by omega) (by simp; omega) (W1.heap.size + 1) (by simp) ?_
            intro gh ch w8 hown1 hgrow hat hlt1
            have hblk : ∀ i, i < w3.heap.size + 1 → w8.heap[i]? = W1.heap[i]? := fun i hi => (hgrow.block i (by simp; omega) (fun e => by have := HU2.out.2.2.1.own i e.symm; omega)).trans ((alloc_below W1 _).block i (by omega))
            refine hK.out _ _ (SK.out _ hblk) (fun _ => ?_)
            clear hK K
            refine calm_one 15 (by kernel_rfl) rfl (fun K hK => ?_)
            go_simp
            refine hK.out _ _ (SK.out _ hblk) (fun _ => ?_)
            clear hK K
            refine wpAnyH_done (by kernel_rfl) ?_ _
            simp only [Exit.then]
            have hTw : Two w8 w3.heap.size (.slice (some ⟨gg, 0, none⟩) (k + 1) cc) v2 75 := (hblk _ (by omega)).trans HU2.out.1
            have hTf := hTw.frozen 1
            have hTc := hTw.c1
            have hun := HU2.out.high (alloc_below W1 (.cells #[.int .i64 (min (nth hi k) (nth hi' k))] 2)).drew (x := min (nth hi k) (nth hi' k)) (by rw [tabL_length]; exact hown1) hgrow (by simpa using hat)
            rw [tabL_length] at hun
            have HL4 : Hid (Below w3.heap.size w3 (w8.setCell ⟨w3.heap.size, 1, none⟩ (.slice (some ⟨gh, 0, none⟩) (k + 1) ch))) := set_below ((below_alloc HL2.out _).drew.grown hgrow (by simp; omega) (fun q hq => by have := HU2.out.2.2.1.own q hq; omega)) (Nat.le_refl _) _
            have HU4 : Hid (Under w3.heap.size (w8.setCell ⟨w3.heap.size, 1, none⟩ (.slice (some ⟨gh, 0, none⟩) (k + 1) ch)) (.slice (some ⟨gg, 0, none⟩) (k + 1) cc) (.slice (some ⟨gh, 0, none⟩) (k + 1) ch) (tabL (shLow (lo, hi) (lo', hi')) (k + 1)) (tabL (shHigh (lo, hi) (lo', hi')) (k + 1))) := by rw [tabL_succ (shHigh (lo, hi) (lo', hi'))]; exact hun
            clear hun hblk hgrow hat hown1 hlt1 hTw
            go_wp2_with fail
            refine NoPanic.normal ?_
            clear SK HU2 HL2 HO1 hTf hTc hS hS0 z1a z1b z1c z1d hzw hDw
            go_wp2_with fail
            go_roundw
            case rel => exact ⟨k + 1, _, _, by omega, by go_num, HU4.out, HL4.out⟩
            case measure => simp [intOf]; omega
          · obtain rfl : k = lo.length := by omega
            obtain ⟨tw, o1, o2, ap⟩ := HU.out
            obtain ⟨g1, e1, rfl, r1⟩ : ∃ g c, v1 = .slice (some ⟨g, 0, none⟩) lo.length c ∧ IRow (w3.heap.size + 1) wr g c (tabL (shLow (lo, hi) (lo', hi')) lo.length) := by
              rcases o1 with ⟨_, h⟩ | ⟨g, c, h, hr⟩
              · have := congrArg List.length h; rw [tabL_length] at this; simp at this; rw [this] at h4'; simp at h4'
              · rw [tabL_length] at h; exact ⟨g, c, h, hr⟩
            obtain ⟨g2, e2, rfl, r2⟩ : ∃ g c, v2 = .slice (some ⟨g, 0, none⟩) lo.length c ∧ IRow (w3.heap.size + 1) wr g c (tabL (shHigh (lo, hi) (lo', hi')) lo.length) := by
              rcases o2 with ⟨_, h⟩ | ⟨g, c, h, hr⟩
              · have := congrArg List.length h; rw [tabL_length] at this; simp at this; rw [this] at h4'; simp at h4'
              · rw [tabL_length] at h; exact ⟨g, c, h, hr⟩
            have HX := hidP (sBoxOk (some ⟨g1, 0, none⟩) (some ⟨g2, 0, none⟩) e1 e2 (tabL (shLow (lo, hi) (lo', hi')) lo.length) (tabL (shHigh (lo, hi) (lo', hi')) lo.length) wr r1.view r2.view (by rw [tabL_length]; omega) (by rw [tabL_length]; omega))
            rw [tabL_length, tabL_length] at HX
            have p0 := tw.c0
            have p1 := tw.c1
            have HTW := hidP (And.intro tw (And.intro r1 (And.intro r2 HL.out)))
            have hb3 := r1.lt.1
            have hb4 := r2.lt.1
            clear tw r1 r2 o1 o2 ap HU HL HS
            rcases hbo : boxB (shBox (lo, hi) (lo', hi')) with _ | _
            · have hbo' : boxB (tabL (shLow (lo, hi) (lo', hi')) lo.length, tabL (shHigh (lo, hi) (lo', hi')) lo.length) = false := hbo
              rw [hbo'] at HX
              rw [hbo] at HV
              clear hbo'
              go_wp2_with fail
              refine HX.out.mono ?_
              rintro e w6 ⟨rfl, L6⟩
              have t2 := HB3.out.2.2.2.below (chain HTW.out.2.2.2 L6)
              have L7 := chain HB3.out.1 (chain HTW.out.2.2.2 L6)
              have f0 := t2.frozen 0
              have f1 := t2.frozen 1
              have k0 := t2.c0
              have k1 := t2.c1
              have t3 := (t2.set0 (.slice none 0 0)).set1 (.slice none 0 0)
              have y0 := t3.c0
              have y1 := t3.c1
              have HT := hidP (set_below (set_below L7 (show w.heap.size ≤ w.heap.size + 1 + 1 by omega) (.slice none 0 0) (i := 0)) (show w.heap.size ≤ w.heap.size + 1 + 1 by omega) (.slice none 0 0) (i := 1))
              clear t2 L6 L7 t3 HX p0 p1
              go_wp2_with fail
              exact bodyPost_ret (v := .tuple #[.agg #[.slice none 0 0, .slice none 0 0], .bool false]) (by simp [results, Try.results60, go_sem, y0, y1]) rfl (HNO.out _ HT.out HV.out)
            · have hbo' : boxB (tabL (shLow (lo, hi) (lo', hi')) lo.length, tabL (shHigh (lo, hi) (lo', hi')) lo.length) = true := hbo
              rw [hbo'] at HX
              rw [hbo] at HV
              clear hbo'
              go_wp2_with fail
              refine HX.out.mono ?_
              rintro e w6 ⟨rfl, L6⟩
              have tw6 := HTW.out.1.below L6
              have r1 := HTW.out.2.1.below L6
              have r2 := HTW.out.2.2.1.below L6
              have t2 := HB3.out.2.2.2.below (chain HTW.out.2.2.2 L6)
              have L7 := chain HB3.out.1 (chain HTW.out.2.2.2 L6)
              have s0 := tw6.c0
              have s1 := tw6.c1
              have f0 := t2.frozen 0
              have f1 := t2.frozen 1
              have k0 := t2.c0
              have k1 := t2.c1
              have t3 := (t2.set0 (.slice (some ⟨g1, 0, none⟩) lo.length e1)).set1 (.slice (some ⟨g2, 0, none⟩) lo.length e2)
              have y0 := t3.c0
              have y1 := t3.c1
              have z1 := ((r1.kept (grown_setCell _ (w.heap.size + 1 + 1) 0 (.slice (some ⟨g1, 0, none⟩) lo.length e1)) (by simp; omega)).kept (grown_setCell _ (w.heap.size + 1 + 1) 1 (.slice (some ⟨g2, 0, none⟩) lo.length e2)) (by simp; omega)).mono (base' := w.heap.size) (by omega)
              have z2 := ((r2.kept (grown_setCell _ (w.heap.size + 1 + 1) 0 (.slice (some ⟨g1, 0, none⟩) lo.length e1)) (by simp; omega)).kept (grown_setCell _ (w.heap.size + 1 + 1) 1 (.slice (some ⟨g2, 0, none⟩) lo.length e2)) (by simp; omega)).mono (base' := w.heap.size) (by omega)
              have HE := hidP (And.intro z1 (And.intro z2 (set_below (set_below L7 (show w.heap.size ≤ w.heap.size + 1 + 1 by omega) (.slice (some ⟨g1, 0, none⟩) lo.length e1) (i := 0)) (show w.heap.size ≤ w.heap.size + 1 + 1 by omega) (.slice (some ⟨g2, 0, none⟩) lo.length e2) (i := 1))))
              clear t2 L6 L7 t3 HX p0 p1 tw6 r1 r2 z1 z2
              go_wp2_with fail
              refine bodyPost_ret (v := .tuple #[.agg #[.slice (some ⟨g1, 0, none⟩) lo.length e1, .slice (some ⟨g2, 0, none⟩) lo.length e2], .bool true]) (by simp [results, Try.results60, go_sem, y0, y1]) rfl ?_
              rw [shared_yes HV.out, HV.out]
              have v1 : (shBox (lo, hi) (lo', hi')).1.length = lo.length := tabL_length _ _
              have v2 : (shBox (lo, hi) (lo', hi')).2.length = lo.length := tabL_length _ _
              simp only [v1, v2]
              exact ⟨some ⟨g1, 0, none⟩, e1, some ⟨g2, 0, none⟩, e2, rfl, Or.inr ⟨g1, e1, by rw [v1], HE.out.1⟩, Or.inr ⟨g2, e2, by rw [v2], HE.out.2.1⟩, HE.out.2.2⟩
      · have hlb : ((lo.length : Int) != (lo'.length : Int)) = true := by simp; omega
        have HV : Hid (shOkB (lo, hi) (lo', hi') = false) := by show _ = _; simp [shOkB, hlen]
        clear hlen
        go_wp2_with fail
        refine HT.out.mono ?_
        rintro e w3 ⟨rfl, L3⟩
        have t2 := HB2.out.2.2.2.below L3
        have x0 := (HB2.out.2.1.below L3).c0
        have x2 := (HB2.out.2.2.1.below L3).c0
        have L4 := chain HB2.out.1 L3
        have f0 := t2.frozen 0
        have f1 := t2.frozen 1
        have e0 := t2.c0
        have e1 := t2.c1
        have t3 := (t2.set0 (.slice none 0 0)).set1 (.slice none 0 0)
        have g0 := t3.c0
        have g1 := t3.c1
        have HX := hidP (set_below (set_below L4 (show w.heap.size ≤ w.heap.size + 1 + 1 by omega) (.slice none 0 0) (i := 0)) (show w.heap.size ≤ w.heap.size + 1 + 1 by omega) (.slice none 0 0) (i := 1))
        clear t2 L3 L4 t3 HT q0 q1 q2 q3
        go_wp2_with fail
        exact bodyPost_ret (v := .tuple #[.agg #[.slice none 0 0, .slice none 0 0], .bool false]) (by simp [results, Try.results60, go_sem, g0, g1]) rfl (HNO.out _ HX.out HV.out)

end Go.Proofs.Ythddhblmnfjciaa
