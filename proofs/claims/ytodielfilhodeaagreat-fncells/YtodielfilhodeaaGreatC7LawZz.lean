/-
  FnCells holds: for every list of bytes the law of cells answers true and leaves its argument alone; no condition.
-/
import Derived.Test.YtodielfilhodeaaGreatC7DrCZz
import Derived.Test.YtodielfilhodeaaGreatBytesZz
import Derived.Deep.CutBlock
import Derived.Deep.DeepCutAuto
namespace Go.Proofs.YtodielfilhodeaaGreat.fnCells
open Go.ChangeShapes Go.WideShapes Go.ChangeAt Go.RowKit
set_option linter.unusedVariables false

theorem own : ownKnob Tryz.prog.godebug = none := by kernel_rfl
theorem laidOut : laidOutB Tryz.prog = true := by kernel_rfl

theorem sum_take_le (l : List (List Int)) (f : List Int → Nat) (k : Nat) : sumL ((l.take k).map f) ≤ sumL (l.map f) := by
  induction l generalizing k with
  | nil => simp
  | cons c l ih =>
    cases k with
    | zero => simp [sumL]
    | succ k => have := ih k; simp only [List.take_succ_cons, List.map_cons, sumL]; omega
theorem sum_take_succ (l : List (List Int)) (f : List Int → Nat) (k : Nat) (h : k < l.length) : sumL ((l.take (k + 1)).map f) = sumL ((l.take k).map f) + f l[k] := by
  rw [List.take_add_one, List.getElem?_eq_getElem h, List.map_append, Option.toList_some, List.map_singleton, sumL_snoc]

set_option maxRecDepth 100000 in
set_option maxHeartbeats 16000000 in
theorem walk (ao0 : Option Addr) (len0 cap0 : Nat) (w : World) (hv0 : CodeV w ao0 len0) (hn0 : len0 ≤ maxLen) :
    Calls Tryz.prog 4 #[.slice ao0 len0 cap0] w fun e w' => e = .returned (.bool true) ∧ Below w.heap.size w w' := by
  unfold maxLen at hn0
  by_cases hbig : 4096 < len0
  · go_enter Tryz.func4, Tryz.ntmps4
    go_wp2_with (go_at_call 6; refine (bigC _ _ _ _).mono ?_; rintro e w' ⟨rfl, rfl⟩)
    go_ret
    exact ⟨rfl, Below.refl _ _⟩
  have hn : len0 ≤ 4096 := by omega
  have hbb : decide (4096 < (len0 : Int)) = false := by simp; omega
  clear hn0 hbig
  have HCV := hidP hv0
  clear hv0
  go_enter Tryz.func4, Tryz.ntmps4
  go_wp2_with fail
  refine (bigC _ _ _ _).mono ?_
  rintro e wd0 ⟨rfl, hu0⟩
  subst hu0
  rw [hbb]
  go_wp2_with fail
  refine (cCellsD ao0 len0 cap0 _ HCV.out hn).mono ?_
  rintro e w1 ⟨s, a, c, ms, rfl, hm, hms, h8, L1⟩
  obtain ⟨W1, hW1⟩ : ∃ W, W = w1.alloc (.cells #[.int .i64 s, .slice a ms.length c] 46) := ⟨_, rfl⟩
  have hA1 : Below w1.heap.size w1 W1 := by rw [hW1]; exact alloc_below w1 _
  have HG : Hid (GdV W1 w1.heap.size s a c ms) := ⟨by rw [hW1]; exact Two.new w1 _ _ _, hm.next hA1, hms⟩
  have HL := hidP (chain L1 hA1)
  have HI := hidP (iCellsV a c s ms W1 HG.out.2.1 hms)
  clear hm hbb L1 hA1
  go_wp2_with fail
  rw [← hW1]
  clear hW1
  refine HI.out.mono ?_
  rintro e w2 ⟨al, cl, rfl, hl, L2⟩
  have HK2 := hidP (And.intro (HG.out.below L2) (And.intro hl (chain HL.out L2)))
  clear HG HL HI hl L2
  go_wp2_with fail
  refine (cInCellD ao0 len0 cap0 _ (HCV.out.below (Nat.le_refl _) HK2.out.2.2) hn).mono ?_
  rintro e w3 ⟨s1, a1, c1, ms1, a2, c2, xs, rfl, hm1, hms1, h81, hx, hxw, hx4, L3⟩
  obtain ⟨W3, hW3⟩ : ∃ W, W = w3.alloc (.cells #[.int .i64 s1, .slice a1 ms1.length c1] 46) := ⟨_, rfl⟩
  have hA3 : Below w3.heap.size w3 W3 := by rw [hW3]; exact alloc_below w3 _
  have HG3 : Hid (GdV W3 w3.heap.size s1 a1 c1 ms1) := ⟨by rw [hW3]; exact Two.new w3 _ _ _, hm1.next hA3, hms1⟩
  have HK3 := hidP (And.intro ((HK2.out.1.below L3).below hA3) (And.intro ((HK2.out.2.1.next L3).next hA3) (And.intro HG3.out (And.intro (hx.next hA3) (chain (chain HK2.out.2.2 L3) hA3)))))
  clear HK2 HG3 hm1 hx L3 hA3
  go_wp2_with fail
  rw [← hW3]
  clear hW3
  refine (cNearD ao0 len0 cap0 _ (HCV.out.below (Nat.le_refl _) HK3.out.2.2.2.2) hn).mono ?_
  rintro e w4 ⟨s2, a3, c3, ms2, a4, c4, q, most, rfl, hm2, hms2, h82, hq, hq6, L4⟩
  obtain ⟨W4, hW4⟩ : ∃ W, W = w4.alloc (.cells #[.int .i64 s2, .slice a3 ms2.length c3] 46) := ⟨_, rfl⟩
  have hA4 : Below w4.heap.size w4 W4 := by rw [hW4]; exact alloc_below w4 _
  have HG4 : Hid (GdV W4 w4.heap.size s2 a3 c3 ms2) := ⟨by rw [hW4]; exact Two.new w4 _ _ _, hm2.next hA4, hms2⟩
  have HK4 := hidP (And.intro ((HK3.out.1.below L4).below hA4) (And.intro ((HK3.out.2.1.next L4).next hA4) (And.intro ((HK3.out.2.2.1.below L4).below hA4) (And.intro ((HK3.out.2.2.2.1.next L4).next hA4) (And.intro HG4.out (And.intro (hq.next hA4) (chain (chain HK3.out.2.2.2.2 L4) hA4)))))))
  clear HK3 HG4 hm2 hq L4 hA4
  go_wp2_with fail
  rw [← hW4]
  clear hW4
  refine (cCellD ao0 len0 cap0 _ (HCV.out.below (Nat.le_refl _) HK4.out.2.2.2.2.2.2) hn).mono ?_
  rintro e Z ⟨a5, c5, p, side, rfl, hp, hp4, L5⟩
  have HX : Hid (∀ X, Below Z.heap.size Z X → GdV X w1.heap.size s a c ms ∧ LView X al (cellsL s ms) ∧ GdV X w3.heap.size s1 a1 c1 ms1 ∧ View X a2 xs ∧ GdV X w4.heap.size s2 a3 c3 ms2 ∧ View X a4 q ∧ View X a5 p ∧ Below w.heap.size w X) := fun X hX => by
    obtain ⟨h1, h2, h3, h4, h5, h6, h7⟩ := HK4.out
    exact ⟨(h1.below L5).below hX, (h2.next L5).next hX, (h3.below L5).below hX, (h4.next L5).next hX, (h5.below L5).below hX, (h6.next L5).next hX, hp.next hX, chain (chain h7 L5) hX⟩
  have SK : Hid (∀ X, Below Z.heap.size Z X → (X.cell? ⟨w1.heap.size, 0, none⟩ = some (.int .i64 s) ∧ X.cell? ⟨w1.heap.size, 1, none⟩ = some (.slice a ms.length c)) ∧ (X.cell? ⟨w3.heap.size, 0, none⟩ = some (.int .i64 s1) ∧ X.cell? ⟨w3.heap.size, 1, none⟩ = some (.slice a1 ms1.length c1)) ∧ (X.cell? ⟨w4.heap.size, 0, none⟩ = some (.int .i64 s2) ∧ X.cell? ⟨w4.heap.size, 1, none⟩ = some (.slice a3 ms2.length c3))) := fun X hX => by
    have h := HX.out X hX
    exact ⟨⟨h.1.1.c0, h.1.1.c1⟩, ⟨h.2.2.1.1.c0, h.2.2.1.1.c1⟩, ⟨h.2.2.2.2.1.1.c0, h.2.2.2.2.1.1.c1⟩⟩
  clear HK4 hp L5 HCV
  have HCS := hidP (cells_small (s := s) hms)
  go_wp2_with fail
  have B0 : Below Z.heap.size Z Z.drew := (Below.refl _ _).drew
  refine wp_region_takes (S := fun X => (X.cell? ⟨w1.heap.size, 0, none⟩ = some (.int .i64 s) ∧ X.cell? ⟨w1.heap.size, 1, none⟩ = some (.slice a ms.length c)) ∧ (X.cell? ⟨w3.heap.size, 0, none⟩ = some (.int .i64 s1) ∧ X.cell? ⟨w3.heap.size, 1, none⟩ = some (.slice a1 ms1.length c1)) ∧ (X.cell? ⟨w4.heap.size, 0, none⟩ = some (.int .i64 s2) ∧ X.cell? ⟨w4.heap.size, 1, none⟩ = some (.slice a3 ms2.length c3))) (fuel := 42) [0, 1] (by kernel_rfl) (by kernel_rfl) (by kernel_rfl) (by kernel_rfl) (SK.out _ B0) (fun hS => ?_)
  iterate 2
    refine ⟨_, rfl, ?_⟩
    first
      | refine ⟨undef, Or.inr ⟨by rfl, rfl⟩, ?_⟩
      | (apply Exists.intro
         refine ⟨Or.inl ⟨by rfl, fun w' hw' => ?_⟩, ?_⟩
         · first
           | (go_simp; done)
           | (go_simp; with_reducible rfl))
    simp only [Act.put, List.getElem_toArray, List.getElem_cons_succ, List.getElem_cons_zero, List.setIfInBounds_toArray, List.set_cons_zero, List.set_cons_succ]
  refine calm_one 2 (by kernel_rfl) rfl (fun K hK => ?_)
  go_simp
  refine (sCellsV a c s ms _ (HX.out _ B0).1.2.1 hms).mono ?_
  rintro e k1 ⟨b1, d1, rfl, v1, Lk⟩
  have B1 : Below Z.heap.size Z k1 := chain B0 Lk
  clear Lk
  refine hK.out _ _ (SK.out _ B1) (fun _ => ?_)
  clear hK K
  refine calm_one 3 (by kernel_rfl) rfl (fun K hK => ?_)
  go_simp
  refine (likeL al b1 cl d1 (cellsL s ms) _ (HX.out _ B1).2.1 v1 (by have := HCS.out.1; omega) HCS.out.2).mono ?_
  rintro e k2 ⟨rfl, Lk⟩
  have B2 : Below Z.heap.size Z k2 := chain B1 Lk
  clear Lk
  refine hK.out _ _ (SK.out _ B2) (fun _ => ?_)
  clear hK K
  refine calm_more 34 [4, 5, 6, 7, 9, 10] (by kernel_rfl) (by kernel_rfl) (by kernel_rfl) (SK.out _ B2) ?_
  iterate 6
    refine ⟨_, rfl, ?_⟩
    first
      | refine ⟨undef, Or.inr ⟨by rfl, rfl⟩, ?_⟩
      | (apply Exists.intro
         refine ⟨Or.inl ⟨by rfl, fun w' hw' => ?_⟩, ?_⟩
         · first
           | (go_simp; done)
           | (go_simp; with_reducible rfl))
    simp only [Act.put, List.getElem_toArray, List.getElem_cons_succ, List.getElem_cons_zero, List.setIfInBounds_toArray, List.set_cons_zero, List.set_cons_succ]
  refine calm_one 8 (by kernel_rfl) rfl (fun K hK => ?_)
  go_simp
  refine (iInV a1 a2 c1 c2 s1 ms1 xs _ (HX.out _ B2).2.2.1.2.1 hms1 (HX.out _ B2).2.2.2.1 hxw).mono ?_
  rintro e k3 ⟨b2, d2, rfl, v2, Lk⟩
  have B3 : Below Z.heap.size Z k3 := chain B2 Lk
  clear Lk
  refine hK.out _ _ (SK.out _ B3) (fun _ => ?_)
  clear hK K
  refine calm_one 11 (by kernel_rfl) rfl (fun K hK => ?_)
  go_simp
  refine (sInV a1 a2 c1 c2 s1 ms1 xs _ (HX.out _ B3).2.2.1.2.1 hms1 (HX.out _ B3).2.2.2.1).mono ?_
  rintro e k4 ⟨b3, d3, rfl, v3, Lk⟩
  have B4 : Below Z.heap.size Z k4 := chain B3 Lk
  have v2 := v2.next Lk
  clear Lk
  refine hK.out _ _ (SK.out _ B4) (fun _ => ?_)
  clear hK K
  refine calm_one 12 (by kernel_rfl) rfl (fun K hK => ?_)
  go_simp
  refine (likeI b2 b3 d2 d3 _ _ v2 v3 (by have := in_small s1 ms1 xs; omega)).mono ?_
  rintro e k5 ⟨rfl, Lk⟩
  have B5 : Below Z.heap.size Z k5 := chain B4 Lk
  clear Lk
  refine hK.out _ _ (SK.out _ B5) (fun _ => ?_)
  clear hK K
  refine calm_more 22 [13, 14, 15, 16, 17, 18, 20, 21, 22] (by kernel_rfl) (by kernel_rfl) (by kernel_rfl) (SK.out _ B5) ?_
  iterate 9
    refine ⟨_, rfl, ?_⟩
    first
      | refine ⟨undef, Or.inr ⟨by rfl, rfl⟩, ?_⟩
      | (apply Exists.intro
         refine ⟨Or.inl ⟨by rfl, fun w' hw' => ?_⟩, ?_⟩
         · first
           | (go_simp; done)
           | (go_simp; with_reducible rfl))
    simp only [Act.put, List.getElem_toArray, List.getElem_cons_succ, List.getElem_cons_zero, List.setIfInBounds_toArray, List.set_cons_zero, List.set_cons_succ]
  refine calm_one 19 (by kernel_rfl) rfl (fun K hK => ?_)
  go_simp
  refine (iNearV a3 a4 c3 c4 s2 ms2 q most _ (HX.out _ B5).2.2.2.2.1.2.1 hms2 (HX.out _ B5).2.2.2.2.2.1 (by omega)).mono ?_
  rintro e k6 ⟨b4, d4, rfl, v4, Lk⟩
  have B6 : Below Z.heap.size Z k6 := chain B5 Lk
  clear Lk
  refine hK.out _ _ (SK.out _ B6) (fun _ => ?_)
  clear hK K
  refine calm_one 23 (by kernel_rfl) rfl (fun K hK => ?_)
  go_simp
  refine (sNearV a3 a4 c3 c4 s2 ms2 q most _ (HX.out _ B6).2.2.2.2.1.2.1 hms2 (HX.out _ B6).2.2.2.2.2.1 (by omega)).mono ?_
  rintro e k7 ⟨b5, d5, rfl, v5, Lk⟩
  have B7 : Below Z.heap.size Z k7 := chain B6 Lk
  have v4 := v4.next Lk
  clear Lk
  refine hK.out _ _ (SK.out _ B7) (fun _ => ?_)
  clear hK K
  refine calm_one 24 (by kernel_rfl) rfl (fun K hK => ?_)
  go_simp
  refine (likeH b4 b5 d4 d5 _ _ v4 v5 (near_small s2 ms2 q most h82)).mono ?_
  rintro e k8 ⟨rfl, Lk⟩
  have B8 : Below Z.heap.size Z k8 := chain B7 Lk
  clear Lk
  refine hK.out _ _ (SK.out _ B8) (fun _ => ?_)
  clear hK K
  refine calm_more 12 [25, 26, 27, 28, 29, 31, 32] (by kernel_rfl) (by kernel_rfl) (by kernel_rfl) (SK.out _ B8) ?_
  iterate 7
    refine ⟨_, rfl, ?_⟩
    first
      | refine ⟨undef, Or.inr ⟨by rfl, rfl⟩, ?_⟩
      | (apply Exists.intro
         refine ⟨Or.inl ⟨by rfl, fun w' hw' => ?_⟩, ?_⟩
         · first
           | (go_simp; done)
           | (go_simp; with_reducible rfl))
    simp only [Act.put, List.getElem_toArray, List.getElem_cons_succ, List.getElem_cons_zero, List.setIfInBounds_toArray, List.set_cons_zero, List.set_cons_succ]
  refine calm_one 30 (by kernel_rfl) rfl (fun K hK => ?_)
  go_simp
  refine (iCellW a5 c5 p side _ (HX.out _ B8).2.2.2.2.2.2.1 (by omega)).mono ?_
  rintro e k9 ⟨b6, d6, rfl, v6, Lk⟩
  have B9 : Below Z.heap.size Z k9 := chain B8 Lk
  clear Lk
  refine hK.out _ _ (SK.out _ B9) (fun _ => ?_)
  clear hK K
  refine calm_one 33 (by kernel_rfl) rfl (fun K hK => ?_)
  go_simp
  refine (sCellW a5 c5 p side _ (HX.out _ B9).2.2.2.2.2.2.1 (by omega)).mono ?_
  rintro e k10 ⟨b7, d7, rfl, v7, Lk⟩
  have B10 : Below Z.heap.size Z k10 := chain B9 Lk
  have v6 := v6.next Lk
  clear Lk
  refine hK.out _ _ (SK.out _ B10) (fun _ => ?_)
  clear hK K
  refine calm_one 34 (by kernel_rfl) rfl (fun K hK => ?_)
  go_simp
  refine (likeI b6 b7 d6 d7 _ _ v6 v7 (by have := cellL_short p side; omega)).mono ?_
  rintro e k11 ⟨rfl, Lk⟩
  have B11 : Below Z.heap.size Z k11 := chain B10 Lk
  clear Lk
  refine hK.out _ _ (SK.out _ B11) (fun _ => ?_)
  clear hK K
  refine calm_more 4 [35, 36, 37, 38, 40] (by kernel_rfl) (by kernel_rfl) (by kernel_rfl) (SK.out _ B11) ?_
  iterate 5
    refine ⟨_, rfl, ?_⟩
    first
      | refine ⟨undef, Or.inr ⟨by rfl, rfl⟩, ?_⟩
      | (apply Exists.intro
         refine ⟨Or.inl ⟨by rfl, fun w' hw' => ?_⟩, ?_⟩
         · first
           | (go_simp; done)
           | (go_simp; with_reducible rfl))
    simp only [Act.put, List.getElem_toArray, List.getElem_cons_succ, List.getElem_cons_zero, List.setIfInBounds_toArray, List.set_cons_zero, List.set_cons_succ]
  refine calm_one 39 (by kernel_rfl) rfl (fun K hK => ?_)
  go_simp
  refine (iCrowd a c s ms _ (HX.out _ B11).1.2.1 hms).mono ?_
  rintro e k12 ⟨rfl, Lk⟩
  have B12 : Below Z.heap.size Z k12 := chain B11 Lk
  clear Lk
  refine hK.out _ _ (SK.out _ B12) (fun _ => ?_)
  clear hK K
  refine calm_one 41 (by kernel_rfl) rfl (fun K hK => ?_)
  go_simp
  refine (sCrowd a c s ms _ (HX.out _ B12).1.2.1 hms).mono ?_
  rintro e k13 ⟨rfl, Lk⟩
  have B13 : Below Z.heap.size Z k13 := chain B12 Lk
  clear Lk
  refine hK.out _ _ (SK.out _ B13) (fun _ => ?_)
  clear hK K
  refine calm_rest [42, 43] (by kernel_rfl) (by kernel_rfl) (by kernel_rfl) (by kernel_rfl) (SK.out _ B13) ?_
  iterate 2
    refine ⟨_, rfl, ?_⟩
    first
      | refine ⟨undef, Or.inr ⟨by rfl, rfl⟩, ?_⟩
      | (apply Exists.intro
         refine ⟨Or.inl ⟨by rfl, fun w' hw' => ?_⟩, ?_⟩
         · first
           | (go_simp; done)
           | (go_simp; with_reducible rfl))
    simp only [Act.put, List.getElem_toArray, List.getElem_cons_succ, List.getElem_cons_zero, List.setIfInBounds_toArray, List.set_cons_zero, List.set_cons_succ]
  refine NoPanic.normal (NoPanic.normal ?_)
  clear hS
  have r0 := (HX.out _ B13).1.1.c0
  have r1 := (HX.out _ B13).1.1.c1
  go_wp2_with fail
  refine (iCrowd a c s ms _ (HX.out _ B13).1.2.1 hms).mono ?_
  rintro e k14 ⟨rfl, Lk⟩
  have B14 : Below Z.heap.size Z k14 := chain B13 Lk
  clear Lk r0 r1 SK HCS
  by_cases hg : gridB s ms = true
  · have hcv : crowdV s ms = (crowdN s ms : Int) := by simp [crowdV, hg]
    have hcl : cellsL s ms = keysG (cellM s) ms := by simp [cellsL, hg]
    have hcn : ¬ ((crowdN s ms : Int) < 0) := by omega
    have hin : ∀ C, inCellL s ms C = idsL s C ms := fun C => by simp [inCellL, hg]
    have HG0 := hidP (show gsideB s = true ∧ marksB ms = true by simpa [gridB] using hg)
    have HIN := hidP hin
    obtain ⟨L, hL⟩ : ∃ L, L = keysG (cellM s) ms := ⟨_, rfl⟩
    have HLV : Hid (∀ X, Below Z.heap.size Z X → LView X al L) := fun X hX => by
      have := (HX.out X hX).2.1
      rw [hcl, ← hL] at this
      exact this
    have HKY : Hid (∀ C, C ∈ L → 0 < (idsL s C ms).length ∧ (idsL s C ms).length ≤ crowdN s ms ∧ (∀ j, j + 1 < (idsL s C ms).length → nth (idsL s C ms) j < nth (idsL s C ms) (j + 1)) ∧ I64s C) := fun C hC => by
      rw [hL] at hC
      refine ⟨ids_some hC, ids_crowd hC, ids_rise HG0.out.2, ?_⟩
      obtain ⟨m, hm, rfl⟩ := (keysG_mem _ _ _).1 hC
      exact cellV_i64 (gmarks HG0.out.2 m hm).1 ((gsideB_iff s).1 HG0.out.1).1
    have HSUM : Hid (sumL (L.map fun C => (idsL s C ms).length) = ms.length) := by rw [hL]; exact sum_all s ms
    have hLl : L.length ≤ 8 := by rw [hL]; have := keysG_length (cellM s) ms; omega
    have HCV2 := hidP hcv
    rw [hcv, hcl, ← hL]
    clear hg hcl hL hin hcv
    go_wp2_with fail
    go_loopw [12, 13] (fun av i wr => ∃ k : Nat, k ≤ L.length ∧ i = .int .i64 k ∧ av = .int .i64 ((sumL ((L.take k).map fun C => (idsL s C ms).length) : Nat) : Int) ∧ Below Z.heap.size Z wr) (fun _ i _ => L.length - (intOf i).toNat)
    case atStart => exact ⟨0, Nat.zero_le _, rfl, by simp [sumL], B14⟩
    case round =>
      obtain ⟨k, hk, rfl, rfl, hB⟩ := hrel
      have HB := hidP hB
      clear hB
      by_cases hlt : k < L.length
      · obtain ⟨b, ca, cc, rfl, hb, hce, hve⟩ := (HLV.out wr HB.out).at hlt
        obtain ⟨C, hC⟩ : ∃ C, C = L[k] := ⟨_, rfl⟩
        have hky := HKY.out C (by rw [hC]; exact List.getElem_mem hlt)
        have hs1 : sumL ((L.take (k + 1)).map fun C => (idsL s C ms).length) = sumL ((L.take k).map fun C => (idsL s C ms).length) + (idsL s C ms).length := by rw [hC]; exact sum_take_succ L (fun C => (idsL s C ms).length) k hlt
        have hs2 : sumL ((L.take k).map fun C => (idsL s C ms).length) + (idsL s C ms).length ≤ ms.length := by
          rw [← hs1, ← HSUM.out]; exact sum_take_le L (fun C => (idsL s C ms).length) (k + 1)
        rw [← hC] at hce hve
        generalize sumL ((L.take k).map fun C => (idsL s C ms).length) = S0 at *
        have HS1 := hidP hs1
        have hi0 : (0 : Int) ≤ (k : Int) := Int.natCast_nonneg _
        have hi1 : (k : Int) < (L.length : Int) := by omega
        clear hs1 hC
        obtain ⟨n0, n1, n2, hki⟩ := hky
        have HN2 := hidP (And.intro n2 hki)
        clear n2 hki
        have r0 := (HX.out wr HB.out).1.1.c0
        have r1 := (HX.out wr HB.out).1.1.c1
        have D0 : Below Z.heap.size Z wr.drew := HB.out.drew
        go_wp2_with fail
        refine wp_region_takes (S := fun X => (X.cell? ⟨w1.heap.size, 0, none⟩ = some (.int .i64 s) ∧ X.cell? ⟨w1.heap.size, 1, none⟩ = some (.slice a ms.length c)) ∧ X.cell? ⟨b, k, none⟩ = some (.slice ca C.length cc)) (fuel := 2) [0, 1, 2, 3, 4] (by kernel_rfl) (by kernel_rfl) (by kernel_rfl) (by kernel_rfl) ⟨⟨r0, r1⟩, hce⟩ (fun _ => ?_)
        iterate 5
          refine ⟨_, rfl, ?_⟩
          first
            | refine ⟨undef, Or.inr ⟨by rfl, rfl⟩, ?_⟩
            | (apply Exists.intro
               refine ⟨Or.inl ⟨by rfl, fun w' hw' => ?_⟩, ?_⟩
               · first
                 | (go_simp; done)
                 | (go_simp; with_reducible rfl))
          simp only [Act.put, List.getElem_toArray, List.getElem_cons_succ, List.getElem_cons_zero, List.setIfInBounds_toArray, List.set_cons_zero, List.set_cons_succ]
        refine calm_one 5 (by kernel_rfl) rfl (fun K hK => ?_)
        go_simp
        refine (iInV a ca c cc s ms C _ (HX.out _ D0).1.2.1 hms (hve : View wr.drew ca C) HN2.out.2).mono ?_
        rintro e k15 ⟨ai, ci, rfl, vi, Lk⟩
        rw [HIN.out C] at vi ⊢
        have D1 : Below Z.heap.size Z k15 := chain D0 Lk
        have hce2 : k15.cell? ⟨b, k, none⟩ = some (.slice ca C.length cc) := (Lk.cell (p := ⟨b, k, none⟩) hb).trans hce
        refine hK.out _ _ ⟨⟨(HX.out _ D1).1.1.c0, (HX.out _ D1).1.1.c1⟩, hce2⟩ (fun hS2 => ?_)
        clear hK K Lk r0 r1 hce hve hce2
        refine calm_rest [6] rfl (by kernel_rfl) (by kernel_rfl) (by kernel_rfl) hS2 ?_
        iterate 1
          refine ⟨_, rfl, ?_⟩
          first
            | refine ⟨undef, Or.inr ⟨by rfl, rfl⟩, ?_⟩
            | (apply Exists.intro
               refine ⟨Or.inl ⟨by rfl, fun w' hw' => ?_⟩, ?_⟩
               · first
                 | (go_simp; done)
                 | (go_simp; with_reducible rfl))
          simp only [Act.put, List.getElem_toArray, List.getElem_cons_succ, List.getElem_cons_zero, List.setIfInBounds_toArray, List.set_cons_zero, List.set_cons_succ]
        refine NoPanic.normal (NoPanic.normal ?_)
        have q0 := hS2.1.1
        have q1 := hS2.1.2
        have HNI := hidP (idsL_length s C ms)
        generalize idsL s C ms = ids at *
        have hnz : ((ids.length : Int) == 0) = false := by rw [beq_eq_false_iff_ne]; omega
        have hw1 : IntKind.i64.wrap ((S0 : Int) + (ids.length : Int)) = ((S0 + ids.length : Nat) : Int) := by rw [IntWalk.i64_in _ ⟨by omega, by omega⟩]; omega
        have hnc : ¬ ((crowdN s ms : Int) < (ids.length : Int)) := by omega
        clear hS2
        go_wp2_with fail
        refine (iCrowd a c s ms _ (HX.out _ D1).1.2.1 hms).mono ?_
        rintro e k16 ⟨rfl, Lk⟩
        rw [HCV2.out]
        have D2 : Below Z.heap.size Z k16 := chain D1 Lk
        have vi2 := vi.next Lk
        clear Lk vi q0 q1
        go_wp2_with fail
        refine (risesB ai ci ids _ vi2 (by have := HNI.out; omega) HN2.out.1).mono ?_
        rintro e k17 ⟨rfl, Lk⟩
        have D3 : Below Z.heap.size Z k17 := chain D2 Lk
        clear Lk vi2
        go_wp2_with fail
        go_roundw
        case rel => exact ⟨k + 1, by omega, by go_num, by rw [HS1.out, Int.natCast_add], D3⟩
        case measure => simp [intOf]; omega
      · obtain rfl : k = L.length := by omega
        have htot : sumL ((L.take L.length).map fun C => (idsL s C ms).length) = ms.length := by rw [List.take_length]; exact HSUM.out
        rw [htot]
        clear htot
        go_wp2_with fail
        refine (iCellW a5 c5 p side _ (HX.out _ HB.out).2.2.2.2.2.2.1 (by omega)).mono ?_
        rintro e k15 ⟨ax, cx, rfl, vx, Lk⟩
        have D1 : Below Z.heap.size Z k15 := chain HB.out Lk
        have HVX := hidP vx
        have HFL : Hid (∀ j, j < (cellL p side).length → _) := fun j hj => cell_floor (p := p) (s := side) hj
        have HXL := hidP (cellL_short p side)
        generalize cellL p side = X at *
        clear Lk vx
        go_wp2_with fail
        go_loopw [16] (fun i wq => ∃ j : Nat, j ≤ X.length ∧ i = .int .i64 j ∧ ∃ n, wq = k15.drewN n) (fun i _ => X.length - (intOf i).toNat)
        case atStart => exact ⟨0, Nat.zero_le _, rfl, 0, rfl⟩
        case round =>
          obtain ⟨j, hj, rfl, n, rfl⟩ := hrel
          by_cases hlt2 : j < X.length
          · obtain ⟨el, es, ex, f1, f2, ep⟩ := HFL.out j hlt2
            rcases HVX.out with hX0 | ⟨bx, ox, rfl, _, sx⟩
            · rw [hX0] at hlt2; simp at hlt2
            rcases (HX.out _ D1).2.2.2.2.2.2.1 with hp0 | ⟨bp, op, rfl, _, sp⟩
            · rw [hp0] at el; rw [el] at hlt2; simp at hlt2
            have hcx := sx j hlt2
            have hcp := sp j (by omega)
            have f3 := f2
            rw [Int.add_mul, Int.one_mul] at f3
            have hjp : (j : Int) < (p.length : Int) := by omega
            have hjx : (j : Int) < (X.length : Int) := by omega
            have hm1 : IntKind.i64.wrap (nth X j * side) = nth X j * side := IntWalk.i64_in _ ⟨by omega, by omega⟩
            have hm2 : IntKind.i64.wrap (nth X j + 1) = nth X j + 1 := IntWalk.i64_in _ ⟨by omega, by omega⟩
            have hm3 : IntKind.i64.wrap ((nth X j + 1) * side) = (nth X j + 1) * side := IntWalk.i64_in _ ⟨by rw [Int.add_mul, Int.one_mul]; omega, by rw [Int.add_mul, Int.one_mul]; omega⟩
            have hg1 : ¬ (nth p j < nth X j * side) := by omega
            have hg2 : ¬ ((nth X j + 1) * side ≤ nth p j) := by omega
            clear el es ex f1 f2 f3 ep sx sp
            go_wp2_with fail
            go_quiet (fail)
            go_wp2_with fail
            go_roundw
            case rel => exact ⟨j + 1, by omega, by go_num, n + nq, by simp⟩
            case measure => simp [intOf]; omega
          · have r1 : (k15.drewN n).cell? ⟨w1.heap.size, 1, none⟩ = some (.slice a ms.length c) := (HX.out _ D1).1.1.c1
            go_wp2_with fail
            go_ret
            exact ⟨by simp, below_drewN (HX.out _ D1).2.2.2.2.2.2.2 n⟩
  · have hcv : crowdV s ms = -1 := by simp [crowdV, hg]
    have hcl : (cellsL s ms).length = 0 := by simp [cellsL, hg]
    rw [hcv, hcl]
    go_wp2_with fail
    go_ret
    exact ⟨by simp, (HX.out _ B14).2.2.2.2.2.2.2⟩

set_option maxRecDepth 100000 in
theorem lifted (os : Os) (started : os.Started) (H : Type) (enc : TypeId × Value → H) :
    ReturnsInHanded {} Tryz.checked os 4 .any (Rows.fnCellsSpec.pre6 enc Tryz.prog Tryz.f4 Rows.fnCellsRow.domain false) (Rows.fnCellsSpec.post enc Tryz.prog Tryz.f4 false true false false) := by
  refine returnsInHanded_of_change (C := Tryz.checked) own started (by kernel_rfl) Tryz.func4
    (ChangeSpec.witness6 (enc := enc) (C := Tryz.checked) false ⟨#[], #[.slice none 0 0], []⟩ 8 (by kernel_rfl) (by kernel_rfl) (by kernel_rfl) (by kernel_rfl)) ?_
  intro W base args ds gs before hval0 hW hcnd _
  have hval : ∀ (j : Nat) t v, Tryz.f4.params[j]? = some t → args[j]? = some v → Value.okWide Tryz.prog W .any base t v := hval0
  have hW' := hW
  obtain ⟨p, q, hA0, hV, rfl, hfz, hnd⟩ := hW
  have hA : DataW.TrodAll enc Tryz.prog W 0 (fun _ => true) true Tryz.f4.params.toList args.toList ds p := hA0
  rw [Tryz.params4] at hA hval
  obtain ⟨v0, vs0, d0, ds0, p0, q0, hargs, rfl, rfl, h0, r0⟩ := trodAll_cons hA
  obtain ⟨rfl, rfl, rfl⟩ := trodAll_nil r0
  obtain rfl : args = #[v0] := by cases args; simp_all
  obtain ⟨rfl, rfl⟩ := trodVars_none hV
  obtain ⟨a0, len0, cap0, rfl⟩ := okWide_slice Tryz.underlying22 (hval 0 22 v0 rfl rfl)
  have k0 := h0
  have lt0 : ∀ x ∈ p0, x.block < W.heap.size := by obtain ⟨m, hm⟩ := k0; exact DataW.trod_lt m _ _ _ hm
  obtain ⟨hv0, hn0⟩ := (by obtain ⟨fuel, hf⟩ := h0; exact code_view hf : CodeV W a0 len0 ∧ len0 ≤ maxLen)
  clear hA0 hval0
  refine (walk a0 len0 cap0 W hv0 hn0).mono fun e W' ⟨he, bel⟩ => ?_
  subst he
  exact ⟨_, rfl, _, _, _, [], _, [], hW', trodAll_mk1 (shut_bool Tryz.underlying4 _), (trodAll_cons_mk (Below.trod laidOut (by kernel_rfl) (of_decide_eq_true (by kernel_rfl)) k0 bel lt0) trodAll_mk0), rfl, bel.frame _, fun h => by cases h⟩

theorem over : Rows.fnCellsRow.holds Tryz.pinned (OpenSpec.ofChange Rows.fnCellsSpec) :=
  OpenClaim.holds_of_wide 4 Tryz.f4 rfl rfl rfl rfl rfl rfl rfl ⟨rfl, rfl, rfl, rfl, rfl⟩ rfl rfl rfl rfl rfl (by kernel_rfl) Tryz.func4 (by kernel_rfl)
    (of_decide_eq_true (by kernel_rfl)) (by unfold Func.isWrapper; first | (rw [if_pos (by decide +kernel)]; kernel_rfl) | (rw [if_neg (by decide +kernel)]; exact ⟨rfl, rfl⟩))
    (fun os started H enc _ => lifted os started H enc)

end Go.Proofs.YtodielfilhodeaaGreat.fnCells
namespace Go.Proofs.YtodielfilhodeaaGreat

theorem FnCells_holds : Rows.FnCellsSaid := fnCells.over

end Go.Proofs.YtodielfilhodeaaGreat
