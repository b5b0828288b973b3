/-
  The program's Parts.
-/
import Derived.Test.YtiddimmifjklmaaWImp
namespace Go.Proofs.Ytiddimmifjklmaa
open Go Go.RowKit

/-- Two may come up: the one or the other. -/
theorem ready_two {P : Program} {md : Region.Mode} {Q : Exit → Act → World → Prop} {ops : Array Oper} {S : World → Prop} {fuel : Nat} {listed : Array Bool} {a : Act} {w : World} {o o' : Oper} (i j : Nat) (hr : Region.ready md ops listed = [i, j]) (ho : ops[i]? = some o) (ho' : ops[j]? = some o')
    (h : ∀ K : Act → World → Prop, Shut (∀ a w, S w → (S w → wpAnyH P md ops Q S fuel (listed.setIfInBounds i true) a w) → K a w) → if Region.wanted o (yielded ops a.tmps) = true then Oper.wp P o a w K Q else K (a.put o.dst undef) w)
    (h' : ∀ K : Act → World → Prop, Shut (∀ a w, S w → (S w → wpAnyH P md ops Q S fuel (listed.setIfInBounds j true) a w) → K a w) → if Region.wanted o' (yielded ops a.tmps) = true then Oper.wp P o' a w K Q else K (a.put o'.dst undef) w) : wpAnyH P md ops Q S (fuel + 1) listed a w :=
  wpAnyH_ready hr (by simp) (AllReadyH.cons ho h (AllReadyH.cons ho' h' AllReadyH.nil))
/-- Three may come up. -/
theorem ready_three {P : Program} {md : Region.Mode} {Q : Exit → Act → World → Prop} {ops : Array Oper} {S : World → Prop} {fuel : Nat} {listed : Array Bool} {a : Act} {w : World} {o o' o'' : Oper} (i j k : Nat) (hr : Region.ready md ops listed = [i, j, k]) (ho : ops[i]? = some o) (ho' : ops[j]? = some o') (ho'' : ops[k]? = some o'')
    (h : ∀ K : Act → World → Prop, Shut (∀ a w, S w → (S w → wpAnyH P md ops Q S fuel (listed.setIfInBounds i true) a w) → K a w) → if Region.wanted o (yielded ops a.tmps) = true then Oper.wp P o a w K Q else K (a.put o.dst undef) w)
    (h' : ∀ K : Act → World → Prop, Shut (∀ a w, S w → (S w → wpAnyH P md ops Q S fuel (listed.setIfInBounds j true) a w) → K a w) → if Region.wanted o' (yielded ops a.tmps) = true then Oper.wp P o' a w K Q else K (a.put o'.dst undef) w)
    (h'' : ∀ K : Act → World → Prop, Shut (∀ a w, S w → (S w → wpAnyH P md ops Q S fuel (listed.setIfInBounds k true) a w) → K a w) → if Region.wanted o'' (yielded ops a.tmps) = true then Oper.wp P o'' a w K Q else K (a.put o''.dst undef) w) : wpAnyH P md ops Q S (fuel + 1) listed a w :=
  wpAnyH_ready hr (by simp) (AllReadyH.cons ho h (AllReadyH.cons ho' h' (AllReadyH.cons ho'' h'' AllReadyH.nil)))

theorem wpList_move {P : Program} {ops : Array Oper} {rest : List Oper} {o : Oper} {a : Act} {w : World} {Q : Exit → Act → World → Prop} (hgd : o.guard = none) (x : Operand) (ho : o.op = .move x) (h : wpList P ops Q rest (a.put o.dst (a.eval x)) w) : wpList P ops Q (o :: rest) a w :=
  wpList_plain hgd fun K hK => by
    unfold Oper.wp execOp
    simp only [ho, Sem.run_pure]
    exact hK _ _ h

theorem made_zeros (n : Nat) : madeCells #[.int .i64 0] n = rowC (List.replicate n 0) := by
  rw [← filled_zero (fun _ => 0) n]; simp [filled, tabL]
theorem zeros_set (L : List Int) (n k : Nat) (v : Int) (hk : k < n) (hl : L.length = k) : (L ++ List.replicate (n - k) 0).set k v = (L ++ [v]) ++ List.replicate (n - (k + 1)) 0 := by
  rw [List.set_append_right _ _ (by omega), hl, Nat.sub_self, show n - k = (n - (k + 1)) + 1 by omega, List.replicate_succ, List.set_cons_zero, List.append_assoc]
  rfl

set_option maxRecDepth 100000 in
set_option maxHeartbeats 8000000 in
theorem iParts_in (x n m : Nat) (w : World) (hx : x < 65536) (hc : countB (n : Int) = true) (hn : m * n = 16) :
    Calls Try.prog 15 #[.int .i64 (x : Int), .int .i64 (n : Int)] w fun e w' => ∃ g, e = .returned (.slice (some ⟨g, 0, none⟩) n n) ∧ Own w' g (tabL (fun i => (partN x m i : Int)) n) ∧ w.heap.size ≤ g ∧ Below w.heap.size w w' := by
  have HA := hidP (wordB_nat hx)
  have HC := hidP hc
  have HX := hidP hx
  have hn0 : 0 < n := by rcases Nat.eq_zero_or_pos n with h | h; (subst h; simp at hn); exact h
  have hm0 : 0 < m := by rcases Nat.eq_zero_or_pos m with h | h; (subst h; simp at hn); exact h
  have hn16 : n ≤ 16 := by rw [← hn]; exact Nat.le_mul_of_pos_left n hm0
  have HN := hidP hn
  clear hx hc hn
  have hmk := run_make_row' (P := Try.prog) 24 2 (.int .i64 0) 8 Try.underlying24 Try.info2 rfl .i64 .i64 n (by omega) (by omega)
  rw [made_zeros] at hmk
  have hzl : (List.replicate n (0 : Int)).length = n := by simp
  go_enter Try.func15, Try.ntmps15
  go_upto_region 3 with first
    | (go_at_call 38; refine (iWord (x : Int) _).mono ?_; rintro e w' ⟨rfl, rfl⟩; rw [HA.out])
    | (go_at_call 39; refine (iCountB (n : Int) _).mono ?_; rintro e w' ⟨rfl, rfl⟩; rw [HC.out])
  go_cut [5, 6] from 8 (fun v5 v6 wx => ∃ B G, v5 = .pointer (some ⟨B, 0, none⟩) ∧ v6 = .slice (some ⟨G, 0, none⟩) n n ∧ Arr wx B (bit16 x) ∧ Own wx G (List.replicate n 0) ∧ w'.heap.size ≤ B ∧ w'.heap.size ≤ G ∧ B ≠ G ∧ Below w'.heap.size w' wx)
  case first =>
    have V0B : Below w'.heap.size w' w'.drew := (Below.refl _ w').drew
    refine wp_region_takes (S := fun _ => True) (fuel := 5) [0, 2] (by kernel_rfl) (by kernel_rfl) (by kernel_rfl) (by kernel_rfl) trivial (fun _ => ?_)
    iterate 2
      refine ⟨_, rfl, ?_⟩
      apply Exists.intro
      refine ⟨Or.inl ⟨by rfl, fun w' hw' => ?_⟩, ?_⟩
      · first
        | (go_simp; done)
        | (go_simp; with_reducible rfl)
      simp only [Act.put, List.getElem_toArray, List.getElem_cons_succ, List.getElem_cons_zero, List.setIfInBounds_toArray, List.set_cons_zero, List.set_cons_succ]
    obtain ⟨V0, hV0⟩ : ∃ V, w'.drew = V := ⟨_, rfl⟩
    rw [hV0] at V0B ⊢
    clear hV0
    refine ready_three 1 3 4 (by kernel_rfl) rfl rfl rfl (fun K hK => ?_) (fun K hK => ?_) (fun K hK => ?_)
    · go_simp
      refine (iWordOf x _ HX.out).mono ?_
      rintro e V1 ⟨rfl, LL⟩
      have V1B := V0B.trans (LL.mono V0B.size)
      clear LL V0B
      refine hK.out _ _ trivial (fun _ => ?_)
      clear hK K
      refine ready_two 3 4 (by kernel_rfl) rfl rfl (fun K hK => ?_) (fun K hK => ?_)
      · obtain ⟨V2, hV⟩ : ∃ V, V1.alloc (.cells (rowC (List.replicate n 0)) 2) = V := ⟨_, rfl⟩
        have hsz : V2.heap.size = V1.heap.size + 1 := by rw [← hV]; simp
        have V2B := V1B.alloc V1B.size (.cells (rowC (List.replicate n 0)) 2)
        have V2G : Own V2 V1.heap.size (List.replicate n 0) := by rw [← hV]; exact Own.new _ _
        have hGs := V1B.size
        rw [hV] at V2B
        obtain ⟨G, hG⟩ : ∃ G, V1.heap.size = G := ⟨_, rfl⟩
        go_simp
        (try rw [hV])
        clear hV
        rw [hG] at V2G hGs
        (try rw [hG])
        clear hG hsz V1B
        refine hK.out _ _ trivial (fun _ => ?_)
        clear hK K
        refine calm_one 4 (by kernel_rfl) rfl (fun K hK => ?_)
        obtain ⟨V3, hV⟩ : ∃ V, V2.alloc (.cells (rowC zeros16) 47) = V := ⟨_, rfl⟩
        have V3B := V2B.alloc V2B.size (.cells (rowC zeros16) 47)
        have V3A : Arr V3 V2.heap.size zeros16 := by rw [← hV]; exact heap_alloc_new _ _
        have hBs := V2B.size
        have V3G : Own V3 G (List.replicate n 0) := by rw [← hV]; exact V2G.below V2G.lt ((Below.refl _ _).alloc (Nat.le_refl _) _)
        rw [hV] at V3B
        have hGB := V2G.lt
        obtain ⟨B, hB⟩ : ∃ B, V2.heap.size = B := ⟨_, rfl⟩
        go_simp
        (try rw [show (#[.int .i64 0, .int .i64 0, .int .i64 0, .int .i64 0, .int .i64 0, .int .i64 0, .int .i64 0, .int .i64 0, .int .i64 0, .int .i64 0, .int .i64 0, .int .i64 0, .int .i64 0, .int .i64 0, .int .i64 0, .int .i64 0] : Array Value) = rowC zeros16 from rfl])
        (try rw [hV])
        clear hV
        rw [hB] at V3A hBs hGB
        (try rw [hB])
        clear hB V2B V2G
        refine hK.out _ _ trivial (fun _ => ?_)
        clear hK K
        refine calm_one 5 (by kernel_rfl) rfl (fun K hK => ?_)
        have V4B := below_setRow V3B hBs (rowC (bit16 x))
        have V4A : Arr (V3.setRow B (rowC (bit16 x))) B (bit16 x) := setRow_heap _ _ _ _ 47 _ V3A
        have V4G : Own (V3.setRow B (rowC (bit16 x))) G (List.replicate n 0) := (setRow_other _ _ _ _ (by omega)).trans V3G
        rw [if_pos (by rfl)]
        refine wp_store_row 47 _ _ rfl B (rowC (bit16 x)) rfl rfl 47 _ V3A (row16 (bit16_len x)) (by rw [rowC_size, rowC_size, bit16_len]; rfl) (rowC_one _) ?_
        simp only [Act.put]
        obtain ⟨V4, hV⟩ : ∃ V, V3.setRow B (rowC (bit16 x)) = V := ⟨_, rfl⟩
        rw [hV] at V4B V4A V4G ⊢
        clear hV V3B V3G V3A
        refine hK.out _ _ trivial (fun _ => ?_)
        clear hK K
        refine calm_one 6 (by kernel_rfl) rfl (fun K hK => ?_)
        go_simp
        refine hK.out _ _ trivial (fun _ => ?_)
        clear hK K
        refine wpAnyH_done (by kernel_rfl) ?_ _
        refine NoPanic.normal ?_
        simp only [Exit.then]
        go_wp2_with fail
        go_meet
        exact ⟨B, G, rfl, rfl, V4A, V4G, hBs, hGs, by omega, V4B⟩
      · obtain ⟨V2, hV⟩ : ∃ V, V1.alloc (.cells (rowC zeros16) 47) = V := ⟨_, rfl⟩
        have V2B := V1B.alloc V1B.size (.cells (rowC zeros16) 47)
        have V2A : Arr V2 V1.heap.size zeros16 := by rw [← hV]; exact heap_alloc_new _ _
        have hBs := V1B.size
        rw [hV] at V2B
        obtain ⟨B, hB⟩ : ∃ B, V1.heap.size = B := ⟨_, rfl⟩
        go_simp
        (try rw [show (#[.int .i64 0, .int .i64 0, .int .i64 0, .int .i64 0, .int .i64 0, .int .i64 0, .int .i64 0, .int .i64 0, .int .i64 0, .int .i64 0, .int .i64 0, .int .i64 0, .int .i64 0, .int .i64 0, .int .i64 0, .int .i64 0] : Array Value) = rowC zeros16 from rfl])
        (try rw [hV])
        clear hV
        rw [hB] at V2A hBs
        (try rw [hB])
        clear hB V1B
        refine hK.out _ _ trivial (fun _ => ?_)
        clear hK K
        refine ready_two 3 5 (by kernel_rfl) rfl rfl (fun K hK => ?_) (fun K hK => ?_)
        · obtain ⟨V3, hV⟩ : ∃ V, V2.alloc (.cells (rowC (List.replicate n 0)) 2) = V := ⟨_, rfl⟩
          have hsz : V3.heap.size = V2.heap.size + 1 := by rw [← hV]; simp
          have V3B := V2B.alloc V2B.size (.cells (rowC (List.replicate n 0)) 2)
          have V3G : Own V3 V2.heap.size (List.replicate n 0) := by rw [← hV]; exact Own.new _ _
          have hGs := V2B.size
          have V3A := V2A.alloc (.cells (rowC (List.replicate n 0)) 2)
          rw [hV] at V3B V3A
          have hGB := V2A.lt
          obtain ⟨G, hG⟩ : ∃ G, V2.heap.size = G := ⟨_, rfl⟩
          go_simp
          (try rw [hV])
          clear hV
          rw [hG] at V3G hGs hGB
          (try rw [hG])
          clear hG hsz V2B V2A
          refine hK.out _ _ trivial (fun _ => ?_)
          clear hK K
          refine calm_one 5 (by kernel_rfl) rfl (fun K hK => ?_)
          have V4B := below_setRow V3B hBs (rowC (bit16 x))
          have V4A : Arr (V3.setRow B (rowC (bit16 x))) B (bit16 x) := setRow_heap _ _ _ _ 47 _ V3A
          have V4G : Own (V3.setRow B (rowC (bit16 x))) G (List.replicate n 0) := (setRow_other _ _ _ _ (by omega)).trans V3G
          rw [if_pos (by rfl)]
          refine wp_store_row 47 _ _ rfl B (rowC (bit16 x)) rfl rfl 47 _ V3A (row16 (bit16_len x)) (by rw [rowC_size, rowC_size, bit16_len]; rfl) (rowC_one _) ?_
          simp only [Act.put]
          obtain ⟨V4, hV⟩ : ∃ V, V3.setRow B (rowC (bit16 x)) = V := ⟨_, rfl⟩
          rw [hV] at V4B V4A V4G ⊢
          clear hV V3B V3G V3A
          refine hK.out _ _ trivial (fun _ => ?_)
          clear hK K
          refine calm_one 6 (by kernel_rfl) rfl (fun K hK => ?_)
          go_simp
          refine hK.out _ _ trivial (fun _ => ?_)
          clear hK K
          refine wpAnyH_done (by kernel_rfl) ?_ _
          refine NoPanic.normal ?_
          simp only [Exit.then]
          go_wp2_with fail
          go_meet
          exact ⟨B, G, rfl, rfl, V4A, V4G, hBs, hGs, by omega, V4B⟩
        · have V3B := below_setRow V2B hBs (rowC (bit16 x))
          have V3A : Arr (V2.setRow B (rowC (bit16 x))) B (bit16 x) := setRow_heap _ _ _ _ 47 _ V2A
          rw [if_pos (by rfl)]
          refine wp_store_row 47 _ _ rfl B (rowC (bit16 x)) rfl rfl 47 _ V2A (row16 (bit16_len x)) (by rw [rowC_size, rowC_size, bit16_len]; rfl) (rowC_one _) ?_
          simp only [Act.put]
          obtain ⟨V3, hV⟩ : ∃ V, V2.setRow B (rowC (bit16 x)) = V := ⟨_, rfl⟩
          rw [hV] at V3B V3A ⊢
          clear hV V2B V2A
          refine hK.out _ _ trivial (fun _ => ?_)
          clear hK K
          refine calm_one 3 (by kernel_rfl) rfl (fun K hK => ?_)
          obtain ⟨V4, hV⟩ : ∃ V, V3.alloc (.cells (rowC (List.replicate n 0)) 2) = V := ⟨_, rfl⟩
          have hsz : V4.heap.size = V3.heap.size + 1 := by rw [← hV]; simp
          have V4B := V3B.alloc V3B.size (.cells (rowC (List.replicate n 0)) 2)
          have V4G : Own V4 V3.heap.size (List.replicate n 0) := by rw [← hV]; exact Own.new _ _
          have hGs := V3B.size
          have V4A := V3A.alloc (.cells (rowC (List.replicate n 0)) 2)
          rw [hV] at V4B V4A
          have hGB := V3A.lt
          obtain ⟨G, hG⟩ : ∃ G, V3.heap.size = G := ⟨_, rfl⟩
          go_simp
          (try rw [hV])
          clear hV
          rw [hG] at V4G hGs hGB
          (try rw [hG])
          clear hG hsz V3B V3A
          refine hK.out _ _ trivial (fun _ => ?_)
          clear hK K
          refine calm_one 6 (by kernel_rfl) rfl (fun K hK => ?_)
          go_simp
          refine hK.out _ _ trivial (fun _ => ?_)
          clear hK K
          refine wpAnyH_done (by kernel_rfl) ?_ _
          refine NoPanic.normal ?_
          simp only [Exit.then]
          go_wp2_with fail
          go_meet
          exact ⟨B, G, rfl, rfl, V4A, V4G, hBs, hGs, by omega, V4B⟩
    · obtain ⟨V1, hV⟩ : ∃ V, V0.alloc (.cells (rowC (List.replicate n 0)) 2) = V := ⟨_, rfl⟩
      have hsz : V1.heap.size = V0.heap.size + 1 := by rw [← hV]; simp
      have V1B := V0B.alloc V0B.size (.cells (rowC (List.replicate n 0)) 2)
      have V1G : Own V1 V0.heap.size (List.replicate n 0) := by rw [← hV]; exact Own.new _ _
      have hGs := V0B.size
      rw [hV] at V1B
      obtain ⟨G, hG⟩ : ∃ G, V0.heap.size = G := ⟨_, rfl⟩
      go_simp
      (try rw [hV])
      clear hV
      rw [hG] at V1G hGs
      (try rw [hG])
      clear hG hsz V0B
      refine hK.out _ _ trivial (fun _ => ?_)
      clear hK K
      refine ready_two 1 4 (by kernel_rfl) rfl rfl (fun K hK => ?_) (fun K hK => ?_)
      · go_simp
        refine (iWordOf x _ HX.out).mono ?_
        rintro e V2 ⟨rfl, LL⟩
        have V2B := V1B.trans (LL.mono V1B.size)
        have V2G := V1G.below V1G.lt LL
        clear LL V1B V1G
        refine hK.out _ _ trivial (fun _ => ?_)
        clear hK K
        refine calm_one 4 (by kernel_rfl) rfl (fun K hK => ?_)
        obtain ⟨V3, hV⟩ : ∃ V, V2.alloc (.cells (rowC zeros16) 47) = V := ⟨_, rfl⟩
        have V3B := V2B.alloc V2B.size (.cells (rowC zeros16) 47)
        have V3A : Arr V3 V2.heap.size zeros16 := by rw [← hV]; exact heap_alloc_new _ _
        have hBs := V2B.size
        have V3G : Own V3 G (List.replicate n 0) := by rw [← hV]; exact V2G.below V2G.lt ((Below.refl _ _).alloc (Nat.le_refl _) _)
        rw [hV] at V3B
        have hGB := V2G.lt
        obtain ⟨B, hB⟩ : ∃ B, V2.heap.size = B := ⟨_, rfl⟩
        go_simp
        (try rw [show (#[.int .i64 0, .int .i64 0, .int .i64 0, .int .i64 0, .int .i64 0, .int .i64 0, .int .i64 0, .int .i64 0, .int .i64 0, .int .i64 0, .int .i64 0, .int .i64 0, .int .i64 0, .int .i64 0, .int .i64 0, .int .i64 0] : Array Value) = rowC zeros16 from rfl])
        (try rw [hV])
        clear hV
        rw [hB] at V3A hBs hGB
        (try rw [hB])
        clear hB V2B V2G
        refine hK.out _ _ trivial (fun _ => ?_)
        clear hK K
        refine calm_one 5 (by kernel_rfl) rfl (fun K hK => ?_)
        have V4B := below_setRow V3B hBs (rowC (bit16 x))
        have V4A : Arr (V3.setRow B (rowC (bit16 x))) B (bit16 x) := setRow_heap _ _ _ _ 47 _ V3A
        have V4G : Own (V3.setRow B (rowC (bit16 x))) G (List.replicate n 0) := (setRow_other _ _ _ _ (by omega)).trans V3G
        rw [if_pos (by rfl)]
        refine wp_store_row 47 _ _ rfl B (rowC (bit16 x)) rfl rfl 47 _ V3A (row16 (bit16_len x)) (by rw [rowC_size, rowC_size, bit16_len]; rfl) (rowC_one _) ?_
        simp only [Act.put]
        obtain ⟨V4, hV⟩ : ∃ V, V3.setRow B (rowC (bit16 x)) = V := ⟨_, rfl⟩
        rw [hV] at V4B V4A V4G ⊢
        clear hV V3B V3G V3A
        refine hK.out _ _ trivial (fun _ => ?_)
        clear hK K
        refine calm_one 6 (by kernel_rfl) rfl (fun K hK => ?_)
        go_simp
        refine hK.out _ _ trivial (fun _ => ?_)
        clear hK K
        refine wpAnyH_done (by kernel_rfl) ?_ _
        refine NoPanic.normal ?_
        simp only [Exit.then]
        go_wp2_with fail
        go_meet
        exact ⟨B, G, rfl, rfl, V4A, V4G, hBs, hGs, by omega, V4B⟩
      · obtain ⟨V2, hV⟩ : ∃ V, V1.alloc (.cells (rowC zeros16) 47) = V := ⟨_, rfl⟩
        have V2B := V1B.alloc V1B.size (.cells (rowC zeros16) 47)
        have V2A : Arr V2 V1.heap.size zeros16 := by rw [← hV]; exact heap_alloc_new _ _
        have hBs := V1B.size
        have V2G : Own V2 G (List.replicate n 0) := by rw [← hV]; exact V1G.below V1G.lt ((Below.refl _ _).alloc (Nat.le_refl _) _)
        rw [hV] at V2B
        have hGB := V1G.lt
        obtain ⟨B, hB⟩ : ∃ B, V1.heap.size = B := ⟨_, rfl⟩
        go_simp
        (try rw [show (#[.int .i64 0, .int .i64 0, .int .i64 0, .int .i64 0, .int .i64 0, .int .i64 0, .int .i64 0, .int .i64 0, .int .i64 0, .int .i64 0, .int .i64 0, .int .i64 0, .int .i64 0, .int .i64 0, .int .i64 0, .int .i64 0] : Array Value) = rowC zeros16 from rfl])
        (try rw [hV])
        clear hV
        rw [hB] at V2A hBs hGB
        (try rw [hB])
        clear hB V1B V1G
        refine hK.out _ _ trivial (fun _ => ?_)
        clear hK K
        refine calm_one 1 (by kernel_rfl) rfl (fun K hK => ?_)
        go_simp
        refine (iWordOf x _ HX.out).mono ?_
        rintro e V3 ⟨rfl, LL⟩
        have V3B := V2B.trans (LL.mono V2B.size)
        have V3G := V2G.below V2G.lt LL
        have V3A := V2A.below V2A.lt LL
        clear LL V2B V2G V2A
        refine hK.out _ _ trivial (fun _ => ?_)
        clear hK K
        refine calm_one 5 (by kernel_rfl) rfl (fun K hK => ?_)
        have V4B := below_setRow V3B hBs (rowC (bit16 x))
        have V4A : Arr (V3.setRow B (rowC (bit16 x))) B (bit16 x) := setRow_heap _ _ _ _ 47 _ V3A
        have V4G : Own (V3.setRow B (rowC (bit16 x))) G (List.replicate n 0) := (setRow_other _ _ _ _ (by omega)).trans V3G
        rw [if_pos (by rfl)]
        refine wp_store_row 47 _ _ rfl B (rowC (bit16 x)) rfl rfl 47 _ V3A (row16 (bit16_len x)) (by rw [rowC_size, rowC_size, bit16_len]; rfl) (rowC_one _) ?_
        simp only [Act.put]
        obtain ⟨V4, hV⟩ : ∃ V, V3.setRow B (rowC (bit16 x)) = V := ⟨_, rfl⟩
        rw [hV] at V4B V4A V4G ⊢
        clear hV V3B V3G V3A
        refine hK.out _ _ trivial (fun _ => ?_)
        clear hK K
        refine calm_one 6 (by kernel_rfl) rfl (fun K hK => ?_)
        go_simp
        refine hK.out _ _ trivial (fun _ => ?_)
        clear hK K
        refine wpAnyH_done (by kernel_rfl) ?_ _
        refine NoPanic.normal ?_
        simp only [Exit.then]
        go_wp2_with fail
        go_meet
        exact ⟨B, G, rfl, rfl, V4A, V4G, hBs, hGs, by omega, V4B⟩
    · obtain ⟨V1, hV⟩ : ∃ V, V0.alloc (.cells (rowC zeros16) 47) = V := ⟨_, rfl⟩
      have V1B := V0B.alloc V0B.size (.cells (rowC zeros16) 47)
      have V1A : Arr V1 V0.heap.size zeros16 := by rw [← hV]; exact heap_alloc_new _ _
      have hBs := V0B.size
      rw [hV] at V1B
      obtain ⟨B, hB⟩ : ∃ B, V0.heap.size = B := ⟨_, rfl⟩
      go_simp
      (try rw [show (#[.int .i64 0, .int .i64 0, .int .i64 0, .int .i64 0, .int .i64 0, .int .i64 0, .int .i64 0, .int .i64 0, .int .i64 0, .int .i64 0, .int .i64 0, .int .i64 0, .int .i64 0, .int .i64 0, .int .i64 0, .int .i64 0] : Array Value) = rowC zeros16 from rfl])
      (try rw [hV])
      clear hV
      rw [hB] at V1A hBs
      (try rw [hB])
      clear hB V0B
      refine hK.out _ _ trivial (fun _ => ?_)
      clear hK K
      refine ready_two 1 3 (by kernel_rfl) rfl rfl (fun K hK => ?_) (fun K hK => ?_)
      · go_simp
        refine (iWordOf x _ HX.out).mono ?_
        rintro e V2 ⟨rfl, LL⟩
        have V2B := V1B.trans (LL.mono V1B.size)
        have V2A := V1A.below V1A.lt LL
        clear LL V1B V1A
        refine hK.out _ _ trivial (fun _ => ?_)
        clear hK K
        refine ready_two 3 5 (by kernel_rfl) rfl rfl (fun K hK => ?_) (fun K hK => ?_)
        · obtain ⟨V3, hV⟩ : ∃ V, V2.alloc (.cells (rowC (List.replicate n 0)) 2) = V := ⟨_, rfl⟩
          have hsz : V3.heap.size = V2.heap.size + 1 := by rw [← hV]; simp
          have V3B := V2B.alloc V2B.size (.cells (rowC (List.replicate n 0)) 2)
          have V3G : Own V3 V2.heap.size (List.replicate n 0) := by rw [← hV]; exact Own.new _ _
          have hGs := V2B.size
          have V3A := V2A.alloc (.cells (rowC (List.replicate n 0)) 2)
          rw [hV] at V3B V3A
          have hGB := V2A.lt
          obtain ⟨G, hG⟩ : ∃ G, V2.heap.size = G := ⟨_, rfl⟩
          go_simp
          (try rw [hV])
          clear hV
          rw [hG] at V3G hGs hGB
          (try rw [hG])
          clear hG hsz V2B V2A
          refine hK.out _ _ trivial (fun _ => ?_)
          clear hK K
          refine calm_one 5 (by kernel_rfl) rfl (fun K hK => ?_)
          have V4B := below_setRow V3B hBs (rowC (bit16 x))
          have V4A : Arr (V3.setRow B (rowC (bit16 x))) B (bit16 x) := setRow_heap _ _ _ _ 47 _ V3A
          have V4G : Own (V3.setRow B (rowC (bit16 x))) G (List.replicate n 0) := (setRow_other _ _ _ _ (by omega)).trans V3G
          rw [if_pos (by rfl)]
          refine wp_store_row 47 _ _ rfl B (rowC (bit16 x)) rfl rfl 47 _ V3A (row16 (bit16_len x)) (by rw [rowC_size, rowC_size, bit16_len]; rfl) (rowC_one _) ?_
          simp only [Act.put]
          obtain ⟨V4, hV⟩ : ∃ V, V3.setRow B (rowC (bit16 x)) = V := ⟨_, rfl⟩
          rw [hV] at V4B V4A V4G ⊢
          clear hV V3B V3G V3A
          refine hK.out _ _ trivial (fun _ => ?_)
          clear hK K
          refine calm_one 6 (by kernel_rfl) rfl (fun K hK => ?_)
          go_simp
          refine hK.out _ _ trivial (fun _ => ?_)
          clear hK K
          refine wpAnyH_done (by kernel_rfl) ?_ _
          refine NoPanic.normal ?_
          simp only [Exit.then]
          go_wp2_with fail
          go_meet
          exact ⟨B, G, rfl, rfl, V4A, V4G, hBs, hGs, by omega, V4B⟩
        · have V3B := below_setRow V2B hBs (rowC (bit16 x))
          have V3A : Arr (V2.setRow B (rowC (bit16 x))) B (bit16 x) := setRow_heap _ _ _ _ 47 _ V2A
          rw [if_pos (by rfl)]
          refine wp_store_row 47 _ _ rfl B (rowC (bit16 x)) rfl rfl 47 _ V2A (row16 (bit16_len x)) (by rw [rowC_size, rowC_size, bit16_len]; rfl) (rowC_one _) ?_
          simp only [Act.put]
          obtain ⟨V3, hV⟩ : ∃ V, V2.setRow B (rowC (bit16 x)) = V := ⟨_, rfl⟩
          rw [hV] at V3B V3A ⊢
          clear hV V2B V2A
          refine hK.out _ _ trivial (fun _ => ?_)
          clear hK K
          refine calm_one 3 (by kernel_rfl) rfl (fun K hK => ?_)
          obtain ⟨V4, hV⟩ : ∃ V, V3.alloc (.cells (rowC (List.replicate n 0)) 2) = V := ⟨_, rfl⟩
          have hsz : V4.heap.size = V3.heap.size + 1 := by rw [← hV]; simp
          have V4B := V3B.alloc V3B.size (.cells (rowC (List.replicate n 0)) 2)
          have V4G : Own V4 V3.heap.size (List.replicate n 0) := by rw [← hV]; exact Own.new _ _
          have hGs := V3B.size
          have V4A := V3A.alloc (.cells (rowC (List.replicate n 0)) 2)
          rw [hV] at V4B V4A
          have hGB := V3A.lt
          obtain ⟨G, hG⟩ : ∃ G, V3.heap.size = G := ⟨_, rfl⟩
          go_simp
          (try rw [hV])
          clear hV
          rw [hG] at V4G hGs hGB
          (try rw [hG])
          clear hG hsz V3B V3A
          refine hK.out _ _ trivial (fun _ => ?_)
          clear hK K
          refine calm_one 6 (by kernel_rfl) rfl (fun K hK => ?_)
          go_simp
          refine hK.out _ _ trivial (fun _ => ?_)
          clear hK K
          refine wpAnyH_done (by kernel_rfl) ?_ _
          refine NoPanic.normal ?_
          simp only [Exit.then]
          go_wp2_with fail
          go_meet
          exact ⟨B, G, rfl, rfl, V4A, V4G, hBs, hGs, by omega, V4B⟩
      · obtain ⟨V2, hV⟩ : ∃ V, V1.alloc (.cells (rowC (List.replicate n 0)) 2) = V := ⟨_, rfl⟩
        have hsz : V2.heap.size = V1.heap.size + 1 := by rw [← hV]; simp
        have V2B := V1B.alloc V1B.size (.cells (rowC (List.replicate n 0)) 2)
        have V2G : Own V2 V1.heap.size (List.replicate n 0) := by rw [← hV]; exact Own.new _ _
        have hGs := V1B.size
        have V2A := V1A.alloc (.cells (rowC (List.replicate n 0)) 2)
        rw [hV] at V2B V2A
        have hGB := V1A.lt
        obtain ⟨G, hG⟩ : ∃ G, V1.heap.size = G := ⟨_, rfl⟩
        go_simp
        (try rw [hV])
        clear hV
        rw [hG] at V2G hGs hGB
        (try rw [hG])
        clear hG hsz V1B V1A
        refine hK.out _ _ trivial (fun _ => ?_)
        clear hK K
        refine calm_one 1 (by kernel_rfl) rfl (fun K hK => ?_)
        go_simp
        refine (iWordOf x _ HX.out).mono ?_
        rintro e V3 ⟨rfl, LL⟩
        have V3B := V2B.trans (LL.mono V2B.size)
        have V3G := V2G.below V2G.lt LL
        have V3A := V2A.below V2A.lt LL
        clear LL V2B V2G V2A
        refine hK.out _ _ trivial (fun _ => ?_)
        clear hK K
        refine calm_one 5 (by kernel_rfl) rfl (fun K hK => ?_)
        have V4B := below_setRow V3B hBs (rowC (bit16 x))
        have V4A : Arr (V3.setRow B (rowC (bit16 x))) B (bit16 x) := setRow_heap _ _ _ _ 47 _ V3A
        have V4G : Own (V3.setRow B (rowC (bit16 x))) G (List.replicate n 0) := (setRow_other _ _ _ _ (by omega)).trans V3G
        rw [if_pos (by rfl)]
        refine wp_store_row 47 _ _ rfl B (rowC (bit16 x)) rfl rfl 47 _ V3A (row16 (bit16_len x)) (by rw [rowC_size, rowC_size, bit16_len]; rfl) (rowC_one _) ?_
        simp only [Act.put]
        obtain ⟨V4, hV⟩ : ∃ V, V3.setRow B (rowC (bit16 x)) = V := ⟨_, rfl⟩
        rw [hV] at V4B V4A V4G ⊢
        clear hV V3B V3G V3A
        refine hK.out _ _ trivial (fun _ => ?_)
        clear hK K
        refine calm_one 6 (by kernel_rfl) rfl (fun K hK => ?_)
        go_simp
        refine hK.out _ _ trivial (fun _ => ?_)
        clear hK K
        refine wpAnyH_done (by kernel_rfl) ?_ _
        refine NoPanic.normal ?_
        simp only [Exit.then]
        go_wp2_with fail
        go_meet
        exact ⟨B, G, rfl, rfl, V4A, V4G, hBs, hGs, by omega, V4B⟩
  case rest =>
    obtain ⟨B, G, rfl, rfl, hA, hO, hB1, hG1, hne, hL⟩ := hcut
    have HCA := hidP hA
    have HCO := hidP hO
    have HCL := hidP hL
    clear hA hO hL hmk
    go_wp2
    go_loopw [21] (fun i wr => ∃ k : Nat, k ≤ n ∧ i = .int .i64 k ∧ Arr wr B (bit16 x) ∧ Own wr G (tabL (fun i => (partN x m i : Int)) k ++ List.replicate (n - k) 0) ∧ Below w'.heap.size w' wr) (fun i _ => n - (intOf i).toNat)
    case atStart => exact ⟨0, Nat.zero_le _, rfl, HCA.out, HCO.out, HCL.out⟩
    case round =>
      obtain ⟨k, hk, rfl, hA, hO, hL⟩ := hrel
      have HRA := hidP hA
      have HRO := hidP hO
      have HRL := hidP hL
      by_cases hlt : k < n
      · have hle : k * m + m ≤ 16 := by rw [← HN.out, ← Nat.succ_mul, Nat.mul_comm m n]; exact Nat.mul_le_mul_right m hlt
        have HPB := hidP (partL_bits x hle)
        have HPL := hidP (partL_len (bit16_len x) hle)
        have HNP := hidP (number_part x hle)
        have HSET := hidP (zeros_set (tabL (fun i => (partN x m i : Int)) k) n k (partN x m k : Int) hlt (tabL_length _ _))
        have hBlt := hA.lt
        have hGlt := hO.lt
        have hLs := hL.size
        clear hA hO hL hle
        go_upto_region 7 with fail
        refine wp_region_list ?_
        refine wpList_move rfl _ rfl ?_
        refine wpList_move rfl _ rfl ?_
        refine wpList_load_row rfl 47 _ rfl B rfl 47 (rowC (bit16 x)) (0, 0) _ HRA.out Try.underlying47 rfl (row16 (bit16_len x)) ?_
        go_wp2_with fail
        refine (iPart (bit16 x) k n m _ (bit16_len x) HN.out hlt).mono ?_
        rintro e w4 ⟨rfl, L4⟩
        have HA4 := hidP (HRA.out.below hBlt L4)
        have HO4 := hidP (HRO.out.below hGlt L4)
        have HL4 := hidP (chain HRL.out L4)
        have hz4 := L4.size
        clear L4
        go_wp2_with fail
        refine (iNumber _ w4 HPL.out HPB.out).mono ?_
        rintro e w5 ⟨rfl, hw5⟩
        have L5 : Below w4.heap.size w4 w5 := by rw [hw5]; exact (Below.refl _ _).alloc (Nat.le_refl _) _
        clear hw5
        rw [HNP.out]
        have HA5 := hidP (HA4.out.below (by omega) L5)
        have ho5 := HO4.out.below (by omega) L5
        have HO5 := hidP ho5
        have HL5 := hidP (chain HL4.out L5)
        have hc5 : w5.cell? ⟨G, k, none⟩ = some (.int .i64 (nth (tabL (fun i => (partN x m i : Int)) k ++ List.replicate (n - k) 0) k)) := ho5.seg.at k (by simp [tabL_length]; omega)
        have hf5 := ho5.frozen k
        clear L5 ho5 HRA HRO HRL
        go_wp2_with fail
        go_roundw
        case rel =>
          refine ⟨k + 1, by omega, by go_num, ?_, ?_, HL5.out.setCell (p := ⟨G, k, none⟩) hG1 _⟩
          · exact (heap_setCell_other _ ⟨G, k, none⟩ B _ hne).trans HA5.out
          · have := HO5.out.set k (partN x m k : Int)
            rw [HSET.out, ← show tabL (fun i => (partN x m i : Int)) (k + 1) = tabL (fun i => (partN x m i : Int)) k ++ [(partN x m k : Int)] from tabL_succ _ _] at this
            exact this
        case measure => simp [intOf]; omega
      · obtain rfl : k = n := by omega
        clear hA hO hL
        go_wp2
        go_ret
        refine ⟨G, rfl, ?_, hG1, HRL.out⟩
        have := HRO.out
        rw [Nat.sub_self] at this
        simpa using this

set_option maxRecDepth 100000 in
set_option maxHeartbeats 1000000 in
theorem iParts (a n : Int) (w : World) :
    Calls Try.prog 15 #[.int .i64 a, .int .i64 n] w fun e w' => ∃ ao, e = .returned (.slice ao (partsL a n).length (partsL a n).length) ∧ OwnV w.heap.size w' ao (partsL a n) ∧ Below w.heap.size w w' := by
  rcases ha : wordB a with _ | _
  · have HV := hidP (partsL_bad (a := a) (n := n) (by simp [ha]))
    have HA := hidP ha
    clear ha
    go_enter Try.func15, Try.ntmps15
    go_wp2_with (go_at_call 38; refine (iWord a _).mono ?_; rintro e w' ⟨rfl, rfl⟩; rw [HA.out])
    go_ret
    exact ⟨none, by rw [HV.out]; rfl, Or.inl HV.out, Below.refl _ _⟩
  · rcases hc : countB n with _ | _
    · have HV := hidP (partsL_bad (a := a) (n := n) (by simp [hc]))
      have HA := hidP ha
      have HC := hidP hc
      clear ha hc
      go_enter Try.func15, Try.ntmps15
      go_wp2_with first
        | (go_at_call 38; refine (iWord a _).mono ?_; rintro e w' ⟨rfl, rfl⟩; rw [HA.out])
        | (go_at_call 39; refine (iCountB n _).mono ?_; rintro e w' ⟨rfl, rfl⟩; rw [HC.out])
      go_ret
      exact ⟨none, by rw [HV.out]; rfl, Or.inl HV.out, Below.refl _ _⟩
    · obtain ⟨x, rfl, hx⟩ : ∃ x : Nat, a = (x : Int) ∧ x < 65536 := ⟨a.toNat, by have := wordB_lt ha; omega, (wordB_lt ha).1⟩
      obtain ⟨k, m, rfl, hm, hm', h1, h8, h2⟩ := countB_of hc
      rw [partsL_in hx hc hm', tabL_length]
      refine (iParts_in x k m w hx hc hm).mono ?_
      rintro e w' ⟨g, rfl, ho, hg, L⟩
      exact ⟨_, rfl, Or.inr ⟨g, rfl, hg, ho⟩, L⟩
end Go.Proofs.Ytiddimmifjklmaa
