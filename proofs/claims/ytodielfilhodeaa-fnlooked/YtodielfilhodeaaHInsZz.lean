/-
  The library's slices.Insert over hits: one more at a place, in place or in a new row.
  The library's slices.Insert over hits: at the end; and where there is no room, in a new row.
-/
import Derived.Test.YtodielfilhodeaaHCellsZz
import Derived.Test.YtodielfilhodeaaKCellsZz
import Derived.Test.YtodielfilhodeaaBCopyZz
import Derived.Shelf.Spec.SlicesInsert
import Derived.Laws.CopyOwn
import Derived.Lib.AppendZerosOnto
namespace Go.Proofs.Ytodielfilhodeaa
open Go Go.RowKit

/-- copy(dst, src): some cells of a row that is known whole, elements of some cells. -/
theorem run_copy_part {P : Program} (w : World) (dT sT ty elem : TypeId) (g o dLen dCap : Nat) (a : Addr) (sLen sCap size : Nat) (cur : List Value) (t : TypeId) (cs : List Value)
    (hu : P.underlying dT = some (.slice elem)) (hs : (P.info? elem).map (·.size) = some size)
    (hg : w.heap[g]? = some (.cells cur.toArray t (0, 0))) (hn : cs.length = Nat.min sLen dLen * size) (hfit : o + cs.length ≤ cur.length)
    (hsrc : ∀ j v, cs[j]? = some v → w.cell? (a.add j) = some v) (h1 : ∀ v ∈ cs, v.oneCell' = true) :
    (Builtin.copy_ #[dT, sT] ty #[.slice (some ⟨g, o, none⟩) dLen dCap, .slice (some a) sLen sCap]).run P w = .ok (goInt (Nat.min sLen dLen)) (w.setRow g (splice cur o cs).toArray) := by
  have hl := run_loadCells_list (P := P) w a cs hsrc
  have hst := run_storeCells_at P g o t cs 0 cur.toArray w hg (by simpa using hfit) h1
  have e : (cur.toArray.toList.take (o + 0) ++ cs ++ cur.toArray.toList.drop (o + 0 + cs.length)).toArray = (splice cur o cs).toArray := by
    simp [splice]
  rw [e] at hst
  cases hq : P.info? elem with
  | none => simp [hq] at hs
  | some i =>
    have hi : i.size = size := by simpa [hq] using hs
    rw [hn] at hl
    simp [Builtin.copy_, run_underlying hu, Builtin.lenOf, Builtin.firstCells, sizeOf, typeInfo, hq, hi, hl, hst]
theorem hCells_drop (hs : List Ht) (i : Nat) : (hCells hs).drop (i * 2) = hCells (hs.drop i) := by
  induction hs generalizing i with
  | nil => simp [hCells]
  | cons x hs ih =>
    match i with
    | 0 => simp
    | i + 1 =>
      rw [show (i + 1) * 2 = i * 2 + 1 + 1 by omega]
      simp [hCells, ih]

theorem ins_cells {A B S X : List Value} (hX : X.length = 2) (hS : 2 ≤ S.length) :
    splice (splice (A ++ (B ++ S)) (A.length + 2) B) A.length X = A ++ (X ++ (B ++ S.drop 2)) := by
  have e1 : splice (A ++ (B ++ S)) (A.length + 2) B = A ++ ((B ++ S).take 2 ++ (B ++ S.drop 2)) := by
    unfold splice
    rw [List.take_append, List.drop_append]
    rw [List.take_of_length_le (by omega : A.length ≤ A.length + 2), List.drop_of_length_le (by omega : A.length ≤ A.length + 2 + B.length)]
    rw [show A.length + 2 - A.length = 2 by omega, show A.length + 2 + B.length - A.length = B.length + 2 by omega]
    rw [List.drop_append, List.drop_of_length_le (by omega : B.length ≤ B.length + 2), show B.length + 2 - B.length = 2 by omega]
    simp
  have h2 : ((B ++ S).take 2).length = 2 := by simp; omega
  rw [e1]
  unfold splice
  rw [List.take_left', List.drop_append, hX]
  · rw [List.drop_of_length_le (by omega : A.length ≤ A.length + 2), show A.length + 2 - A.length = 2 by omega]
    rw [List.drop_left' h2]
    simp
  · rfl
def Seg2 (w : World) (g : Nat) (cs : List Value) : Prop := ∀ j v, cs[j]? = some v → w.cell? ⟨g, j, none⟩ = some v
theorem hrow_cells {base : Nat} {w : World} {g c : Nat} {hs : List Ht} (h : HRow base w g c hs) : ∃ S : List Value, w.heap[g]? = some (.cells (hCells hs ++ S).toArray 154 (0, 0)) ∧ S.length = (c - hs.length) * 2 ∧ base ≤ g ∧ hs.length ≤ c ∧ c ≤ maxLen := by
  obtain ⟨h1, h2⟩ := h
  rcases h2 with ⟨e, _⟩ | ⟨g', cp, cur, e, hb, hg, hnc, hcm, hsz, htk⟩
  · cases e
  · injection e with e1 e2 e3
    injection e1 with e1
    injection e1 with e1
    subst e1 e3
    refine ⟨cur.toList.drop (hs.length * 2), ?_, ?_, hb, hnc, hcm⟩
    · have : (hCells hs ++ cur.toList.drop (hs.length * 2)).toArray = cur := by rw [← htk, List.take_append_drop]
      rw [this]; exact hg
    · rw [List.length_drop, Array.length_toList, hsz, Nat.sub_mul]
theorem hrow_of {base : Nat} {w : World} {g c : Nat} {hs : List Ht} {S : List Value} (hg : w.heap[g]? = some (.cells (hCells hs ++ S).toArray 154 (0, 0))) (hS : S.length = (c - hs.length) * 2) (hb : base ≤ g) (hnc : hs.length ≤ c) (hcm : c ≤ maxLen) : HRow base w g c hs := by
  refine ⟨hCells_length hs, Or.inr ⟨g, c, _, rfl, hb, hg, hnc, hcm, ?_, ?_⟩⟩
  · simp [hCells_length, hS]
    rw [← Nat.add_mul]
    congr 1
    omega
  · have e : (hCells hs ++ S).toArray.toList = hCells hs ++ S := rfl
    rw [e, List.take_left' (hCells_length hs)]

set_option maxRecDepth 100000 in
set_option maxHeartbeats 4000000 in
theorem iInsShift (base g c i vb : Nat) (hs : List Ht) (h : Ht) (w : World) (hr : HRow base w g c hs) (hv : Two w vb (.int .i64 h.1) (.int .i64 h.2) 154) (hne : vb ≠ g) (hi : i < hs.length) (hroom : hs.length + 1 ≤ c) (hn : hs.length ≤ 60) :
    Calls Try.prog 198 #[.slice (some ⟨g, 0, none⟩) hs.length c, .int .i64 i, .slice (some ⟨vb, 0, none⟩) 1 1] w fun e w' => e = .returned (.slice (some ⟨g, 0, none⟩) (hs.length + 1) c) ∧ HRow base w' g c (hs.take i ++ h :: hs.drop i) ∧ w.grownBy w' (some g) := by
  obtain ⟨S, hgS, hSl, hbg, hnc, hcm⟩ := hrow_cells hr
  have hov : ∀ o lb cb, (callFunc 208 #[.slice (some ⟨vb, 0, none⟩) 1 1, .slice (some ⟨g, o, none⟩) lb cb]).run Try.prog w = .ok (.value (.bool false)) w := fun o lb cb => by
    rw [run_callFunc_extern Try.func208 (by kernel_rfl) (by kernel_rfl) (by kernel_rfl) (e := Extern.SlicesOverlaps.overlaps #[69, 69] #[4]) (by kernel_rfl),
      Lib.run_overlaps_apart w 69 4 154 Try.underlying69 2 (fun _ => by kernel_rfl) ⟨vb, 0, none⟩ ⟨g, o, none⟩ 1 1 lb cb hne 154 154 2 (hCells hs ++ S).length (by unfold Two at hv; simp [World.shape?, hv]) (by simp [World.shape?, hgS]) (by rw [List.length_append, hCells_length]; omega) (hv.frozen 0) (hv.frozen 2)]
    rfl
  have hsz2 : (Try.prog.info? 154).map (·.size) = some 2 := by kernel_rfl
  have ecur : hCells hs ++ S = hCells (hs.take i) ++ (hCells (hs.drop i) ++ S) := by rw [← List.append_assoc, ← hCells_append, List.take_append_drop]
  have hAl : (hCells (hs.take i)).length = i * 2 := by rw [hCells_length]; simp; omega
  have hBl : (hCells (hs.drop i)).length = (hs.length - i) * 2 := by rw [hCells_length]; simp
  obtain ⟨C1, hC1⟩ : ∃ C1, C1 = splice (hCells hs ++ S) ((i + 1) * 2) (hCells (hs.drop i)) := ⟨_, rfl⟩
  have hC1l : C1.length = (hCells hs ++ S).length := by rw [hC1]; exact length_splice _ _ _ (by rw [hBl, List.length_append, hCells_length, hSl]; omega)
  obtain ⟨C2, hC2⟩ : ∃ C2, C2 = splice C1 (i * 2) [.int .i64 h.1, .int .i64 h.2] := ⟨_, rfl⟩
  have eC2 : C2 = hCells (hs.take i ++ h :: hs.drop i) ++ S.drop 2 := by
    have h1 := ins_cells (A := hCells (hs.take i)) (B := hCells (hs.drop i)) (S := S) (X := [.int .i64 h.1, .int .i64 h.2]) rfl (by omega)
    rw [hC2, hC1, ecur, show (i + 1) * 2 = (hCells (hs.take i)).length + 2 by omega, ← hAl, h1, hCells_append]
    simp [hCells]
  have hsg : Seg2 w g (hCells hs) := fun j v hj => by
    have hjl : j < (hCells hs).length := by
      rcases Nat.lt_or_ge j (hCells hs).length with h1 | h1
      · exact h1
      · rw [List.getElem?_eq_none h1] at hj; cases hj
    simp only [World.cell?, hgS]
    simp [List.getElem?_append_left hjl, hj]
  have hcp1 : ∀ ty dc sc, (Builtin.copy_ #[69, 69] ty #[.slice (some ⟨g, (i + 1) * 2, none⟩) (hs.length - i) dc, .slice (some ⟨g, i * 2, none⟩) (hs.length + 1 - i) sc]).run Try.prog w.drew = .ok (goInt (Nat.min (hs.length + 1 - i) (hs.length - i))) (w.drew.setRow g C1.toArray) := fun ty dc sc => by
    rw [hC1]
    exact run_copy_part w.drew _ _ ty 154 g ((i + 1) * 2) (hs.length - i) dc ⟨g, i * 2, none⟩ (hs.length + 1 - i) sc 2 (hCells hs ++ S) 154 (hCells (hs.drop i)) Try.underlying69 hsz2 hgS (by rw [hBl]; congr 1; simp only [Nat.min_def]; split <;> omega) (by rw [hBl, List.length_append, hCells_length, hSl]; omega)
      (fun j v hj => by
        rw [← hCells_drop, List.getElem?_drop] at hj
        rw [Addr.add_lit]
        exact hsg (i * 2 + j) v hj) (hCells_one _)
  obtain ⟨W1, hW1⟩ : ∃ W1, W1 = w.drew.setRow g C1.toArray := ⟨_, rfl⟩
  have hg1 : W1.heap[g]? = some (.cells C1.toArray 154 (0, 0)) := by rw [hW1]; exact setRow_heap w.drew g _ _ 154 _ hgS
  have hv1 : Two W1 vb (.int .i64 h.1) (.int .i64 h.2) 154 := by rw [hW1]; exact (setRow_other w.drew g vb C1.toArray hne).trans hv
  have hmin1 : Nat.min 1 (hs.length + 1 - i) = 1 := by simp only [Nat.min_def]; split <;> omega
  have hcp2 : ∀ ty dc, (Builtin.copy_ #[69, 69] ty #[.slice (some ⟨g, i * 2, none⟩) (hs.length + 1 - i) dc, .slice (some ⟨vb, 0, none⟩) 1 1]).run Try.prog W1 = .ok (goInt (Nat.min 1 (hs.length + 1 - i))) (W1.setRow g C2.toArray) := fun ty dc => by
    rw [hC2]
    exact run_copy_part W1 _ _ ty 154 g (i * 2) (hs.length + 1 - i) dc ⟨vb, 0, none⟩ 1 1 2 C1 154 [.int .i64 h.1, .int .i64 h.2] Try.underlying69 hsz2 hg1 (by rw [hmin1]; rfl) (by rw [hC1l, List.length_append, hCells_length]; simp; omega)
      (fun j v hj => by
        rw [Addr.add_lit]
        match j, hj with
        | 0, hj => simp at hj; rw [← hj]; exact hv1.c0
        | 1, hj => simp at hj; rw [← hj]; exact hv1.c1
        | j + 2, hj => simp at hj) (by intro v hv; simp at hv; rcases hv with rfl | rfl <;> rfl)
  rw [← hW1] at hcp1
  have HEND : Hid (HRow base (W1.setRow g C2.toArray) g c (hs.take i ++ h :: hs.drop i) ∧ w.grownBy (W1.setRow g C2.toArray) (some g)) := by
    refine ⟨hrow_of (S := S.drop 2) ?_ ?_ hbg ?_ hcm, ?_⟩
    · rw [← eC2]; exact setRow_heap W1 g _ _ 154 _ hg1
    · simp; omega
    · simp; omega
    · refine ⟨by rw [hW1]; rfl, by rw [hW1]; rfl, by rw [hW1]; rfl, by rw [hW1]; simp [World.setRow], fun k _ hk => ?_⟩
      have hkg : k ≠ g := fun e => hk (by rw [e])
      rw [setRow_other W1 g k C2.toArray hkg, hW1]
      exact setRow_other w.drew g k C1.toArray hkg
  clear hsg hv1 hg1 eC2 hC1l hC1 hC2 ecur hAl hBl hW1
  have hz2 : ¬ ((i : Int) = (hs.length : Int)) := by omega
  have hw1 : IntKind.i64.wrap ((i : Int) + 1) = (i : Int) + 1 := by rw [IntKind.wrap_i64]; omega
  have hw2 : IntKind.i64.wrap ((hs.length : Int) + 1) = (hs.length : Int) + 1 := by rw [IntKind.wrap_i64]; omega
  have hcc : ¬ ((hs.length : Int) + 1 > (c : Int)) := by omega
  have hin : i ≤ hs.length := by omega
  have hin2 : (i : Int) ≤ (hs.length : Int) := by omega
  have hb1 : (0 : Int) ≤ (i : Int) + 1 := by omega
  have htn : ((i : Int) + 1).toNat = i + 1 := by omega
  have hb2 : ¬ (c = i + 1) := by omega
  have hb3 : (i : Int) ≤ (hs.length : Int) + 1 := by omega
  have hb4 : ¬ (c = i) := by omega
  have mixed : Try.prog.follows Departure.mixedOrders = true := by kernel_rfl
  have hb5 : (i : Int) + 1 ≤ (hs.length : Int) + 1 := by omega
  go_enter Try.func198, Try.ntmps198
  go_wp2_with (simp only [hov])
  go_region_law_o (refine step_copy_runI rfl _ _ 69 69 rfl _ _ (by simp [Act.eval, Act.put]) (by simp [Act.eval, Act.put]) (hcp1 _ _ _) ?_)
  go_wp2_with fail
  go_ret
  exact ⟨rfl, HEND.out.1, HEND.out.2⟩

end Go.Proofs.Ytodielfilhodeaa
namespace Go.Proofs.Ytodielfilhodeaa
open Go Go.RowKit

theorem grow_cells {A B Z X : List Value} (hX : X.length = 2) :
    splice (splice (A ++ Z) A.length X) (A.length + 2) B = A ++ (X ++ (B ++ Z.drop (2 + B.length))) := by
  have e1 : splice (A ++ Z) A.length X = A ++ (X ++ Z.drop 2) := by
    unfold splice
    rw [List.take_left', List.drop_append, hX]
    · rw [List.drop_of_length_le (by omega : A.length ≤ A.length + 2), show A.length + 2 - A.length = 2 by omega]
      simp
    · rfl
  rw [e1]
  have e2 : A ++ (X ++ Z.drop 2) = (A ++ X) ++ Z.drop 2 := by simp
  have hl : (A ++ X).length = A.length + 2 := by simp [hX]
  rw [e2]
  unfold splice
  rw [List.take_left' hl, List.drop_append, hl]
  rw [List.drop_of_length_le (by omega : (A ++ X).length ≤ A.length + 2 + B.length), show A.length + 2 + B.length - (A.length + 2) = B.length by omega, List.drop_drop]
  simp [Nat.add_comm]
theorem grow_length {A B Z X : List Value} (hX : X.length = 2) (hZ : 2 + B.length ≤ Z.length) : (A ++ (X ++ (B ++ Z.drop (2 + B.length)))).length = A.length + Z.length := by simp; omega

set_option maxRecDepth 100000 in
set_option maxHeartbeats 4000000 in
theorem iInsGrow (base g c i vb : Nat) (hs : List Ht) (h : Ht) (w : World) (hr : HRow base w g c hs) (hv : Two w vb (.int .i64 h.1) (.int .i64 h.2) 154) (hi : i < hs.length) (hroom : c < hs.length + 1) (hn : hs.length ≤ 60) (hbw : base ≤ w.heap.size) :
    Calls Try.prog 198 #[.slice (some ⟨g, 0, none⟩) hs.length c, .int .i64 i, .slice (some ⟨vb, 0, none⟩) 1 1] w fun e w' => ∃ G, e = .returned (.slice (some ⟨w.heap.size, 0, none⟩) (hs.length + 1) G) ∧ HRow base w' w.heap.size G (hs.take i ++ h :: hs.drop i) ∧ Below w.heap.size w w' := by
  obtain ⟨S, hgS, hSl, hbg, hnc, hcm⟩ := hrow_cells hr
  obtain ⟨j0, hj0, hy0, hy1, hy2⟩ := info_parts Try.info154
  have hsz2 : (Try.prog.info? 154).map (·.size) = some 2 := by kernel_rfl
  have hgw : g < w.heap.size := hr.lt.2
  have hvw : vb < w.heap.size := hv.lt
  have hsg : Seg2 w g (hCells hs) := fun j v hj => by
    have hjl : j < (hCells hs).length := by
      rcases Nat.lt_or_ge j (hCells hs).length with h1 | h1
      · exact h1
      · rw [List.getElem?_eq_none h1] at hj; cases hj
    simp only [World.cell?, hgS]
    simp [List.getElem?_append_left hjl, hj]
  have hAl : (hCells (hs.take i)).length = i * 2 := by rw [hCells_length]; simp; omega
  have hBl : (hCells (hs.drop i)).length = (hs.length - i) * 2 := by rw [hCells_length]; simp
  have hld : (loadCells ⟨g, 0, none⟩ (i * 2)).run Try.prog w.drew = .ok (hCells (hs.take i)).toArray w.drew := by
    have h1 := run_loadCells_list (P := Try.prog) w.drew ⟨g, 0, none⟩ (hCells (hs.take i)) (fun j v hj => by
      rw [Addr.add_lit, Nat.zero_add]
      refine hsg j v ?_
      have hjl : j < (hCells (hs.take i)).length := by
        rcases Nat.lt_or_ge j (hCells (hs.take i)).length with h1 | h1
        · exact h1
        · rw [List.getElem?_eq_none h1] at hj; cases hj
      have e : hCells hs = hCells (hs.take i) ++ hCells (hs.drop i) := by rw [← hCells_append, List.take_append_drop]
      rw [e, List.getElem?_append_left hjl]; exact hj)
    rwa [hAl] at h1
  have hold : (Builtin.firstCells j0.size i (.slice (some ⟨g, 0, none⟩) i c)).run Try.prog w.drew = .ok (hCells (hs.take i)).toArray w.drew := by
    rw [hy1]
    simp [Builtin.firstCells, hld]
  have hrz := fun ty => Lib.run_append_grow_zeros (P := Try.prog) w 69 3 ty 154 j0 _ .i64 .i64 Try.underlying69 Try.underlying3 hj0 hy0 (some ⟨g, 0, none⟩) i c (hCells (hs.take i)) hold (hs.length + 1 - i) (by omega) (by omega) (by omega) (by omega) (by rw [hy2]; omega) (growslice_fits (by omega) (by rw [hy2]; omega))
  rw [show i + (hs.length + 1 - i) = hs.length + 1 by omega, show ((hs.length + 1 - i : Nat) : Int) = (hs.length : Int) + 1 - (i : Int) by omega] at hrz
  have hG1 := grownCap_ge w (hs.length + 1) c 154
  have hG2 := grownCap_le_maxLen w (hs.length + 1) c 154 (by unfold maxLen; omega)
  obtain ⟨G, hG⟩ : ∃ G, G = grownCap w (hs.length + 1) c 154 := ⟨_, rfl⟩
  rw [← hG] at hrz hG1 hG2
  obtain ⟨Z, hZ⟩ : ∃ Z, Z = (Builtin.zeroCells (Value.agg #[.int .i64 0, .int .i64 0]).cells (hs.length + 1 - i)).toList ++ (Builtin.zeroCells (Value.agg #[.int .i64 0, .int .i64 0]).cells (G - (hs.length + 1))).toList := ⟨_, rfl⟩
  have hZl : Z.length = (G - i) * 2 := by
    have e : ∀ m, (Builtin.zeroCells (Value.agg #[.int .i64 0, .int .i64 0]).cells m).toList.length = m * 2 := fun m => by simp [Builtin.zeroCells, Value.cells]
    rw [hZ, List.length_append, e, e]
    omega
  have ecells : (hCells (hs.take i)).toArray ++ Builtin.zeroCells (Value.agg #[.int .i64 0, .int .i64 0]).cells (hs.length + 1 - i) ++ Builtin.zeroCells (Value.agg #[.int .i64 0, .int .i64 0]).cells (G - (hs.length + 1)) = (hCells (hs.take i) ++ Z).toArray := by
    apply Array.ext'
    rw [hZ]
    simp
  rw [ecells] at hrz
  obtain ⟨W1, hW1⟩ : ∃ W1, W1 = w.drew.alloc (.cells (hCells (hs.take i) ++ Z).toArray 154) := ⟨_, rfl⟩
  rw [← hW1] at hrz
  have hBW : Below w.heap.size w W1 := by rw [hW1]; exact ((Below.refl w.heap.size w).drew).alloc (Nat.le_refl _) _
  have hg1 : W1.heap[w.heap.size]? = some (.cells (hCells (hs.take i) ++ Z).toArray 154 (0, 0)) := by rw [hW1]; exact heap_alloc_new w.drew _
  have hv1 : Two W1 vb (.int .i64 h.1) (.int .i64 h.2) 154 := (hBW.block vb hvw).trans hv
  have hsg1 : Seg2 W1 g (hCells hs) := fun j v hj => (hBW.cell (p := ⟨g, j, none⟩) hgw).trans (hsg j v hj)
  obtain ⟨C1, hC1⟩ : ∃ C1, C1 = splice (hCells (hs.take i) ++ Z) (i * 2) [.int .i64 h.1, .int .i64 h.2] := ⟨_, rfl⟩
  have hC1l : C1.length = (hCells (hs.take i) ++ Z).length := by rw [hC1]; exact length_splice _ _ _ (by rw [List.length_append, hAl, hZl]; simp; omega)
  obtain ⟨C2, hC2⟩ : ∃ C2, C2 = splice C1 ((i + 1) * 2) (hCells (hs.drop i)) := ⟨_, rfl⟩
  have eC2 : C2 = hCells (hs.take i ++ h :: hs.drop i) ++ Z.drop (2 + (hCells (hs.drop i)).length) := by
    have h1 := grow_cells (A := hCells (hs.take i)) (B := hCells (hs.drop i)) (Z := Z) (X := [.int .i64 h.1, .int .i64 h.2]) rfl
    rw [hC2, hC1, show (i + 1) * 2 = (hCells (hs.take i)).length + 2 by omega, ← hAl, h1, hCells_append]
    simp [hCells]
  have hmin1 : Nat.min 1 (hs.length + 1 - i) = 1 := by simp only [Nat.min_def]; split <;> omega
  have hcp1 : ∀ ty dc, (Builtin.copy_ #[69, 69] ty #[.slice (some ⟨w.heap.size, i * 2, none⟩) (hs.length + 1 - i) dc, .slice (some ⟨vb, 0, none⟩) 1 1]).run Try.prog W1 = .ok (goInt (Nat.min 1 (hs.length + 1 - i))) (W1.setRow w.heap.size C1.toArray) := fun ty dc => by
    rw [hC1]
    exact run_copy_part W1 _ _ ty 154 w.heap.size (i * 2) (hs.length + 1 - i) dc ⟨vb, 0, none⟩ 1 1 2 (hCells (hs.take i) ++ Z) 154 [.int .i64 h.1, .int .i64 h.2] Try.underlying69 hsz2 hg1 (by rw [hmin1]; rfl) (by rw [List.length_append, hAl, hZl]; simp; omega)
      (fun j v hj => by
        rw [Addr.add_lit]
        match j, hj with
        | 0, hj => simp at hj; rw [← hj]; exact hv1.c0
        | 1, hj => simp at hj; rw [← hj]; exact hv1.c1
        | j + 2, hj => simp at hj) (by intro v hv; simp at hv; rcases hv with rfl | rfl <;> rfl)
  obtain ⟨W2, hW2⟩ : ∃ W2, W2 = W1.setRow w.heap.size C1.toArray := ⟨_, rfl⟩
  have hg2 : W2.heap[w.heap.size]? = some (.cells C1.toArray 154 (0, 0)) := by rw [hW2]; exact setRow_heap W1 w.heap.size _ _ 154 _ hg1
  have hB2 : Below w.heap.size w W2 := by rw [hW2]; exact below_setRow hBW (Nat.le_refl _) _
  have hcp2 : ∀ ty dc sc, (Builtin.copy_ #[69, 69] ty #[.slice (some ⟨w.heap.size, (i + 1) * 2, none⟩) (hs.length - i) dc, .slice (some ⟨g, i * 2, none⟩) (hs.length - i) sc]).run Try.prog W2.drew = .ok (goInt (Nat.min (hs.length - i) (hs.length - i))) (W2.drew.setRow w.heap.size C2.toArray) := fun ty dc sc => by
    rw [hC2]
    exact run_copy_part W2.drew _ _ ty 154 w.heap.size ((i + 1) * 2) (hs.length - i) dc ⟨g, i * 2, none⟩ (hs.length - i) sc 2 C1 154 (hCells (hs.drop i)) Try.underlying69 hsz2 hg2 (by rw [hBl]; congr 1; simp only [Nat.min_def]; split <;> omega) (by rw [hC1l, List.length_append, hAl, hZl, hBl]; omega)
      (fun j v hj => by
        rw [← hCells_drop, List.getElem?_drop] at hj
        rw [Addr.add_lit]
        exact (hB2.cell (p := ⟨g, i * 2 + j, none⟩) hgw).trans (hsg (i * 2 + j) v hj)) (hCells_one _)
  rw [← hW2] at hcp1
  have HEND : Hid (HRow base (W2.drew.setRow w.heap.size C2.toArray) w.heap.size G (hs.take i ++ h :: hs.drop i) ∧ Below w.heap.size w (W2.drew.setRow w.heap.size C2.toArray)) := by
    refine ⟨hrow_of (S := Z.drop (2 + (hCells (hs.drop i)).length)) ?_ ?_ hbw ?_ hG2, below_setRow hB2.drew (Nat.le_refl _) _⟩
    · rw [← eC2]; exact setRow_heap W2.drew w.heap.size _ _ 154 _ hg2
    · rw [List.length_drop, hBl, hZl]; simp; omega
    · simp; omega
  have hcc : (hs.length : Int) + 1 > (c : Int) := by omega
  have hz2 : ¬ ((i : Int) = (hs.length : Int)) := by omega
  have hw1 : IntKind.i64.wrap ((i : Int) + 1) = (i : Int) + 1 := by rw [IntKind.wrap_i64]; omega
  have hw2 : IntKind.i64.wrap ((hs.length : Int) + 1) = (hs.length : Int) + 1 := by rw [IntKind.wrap_i64]; omega
  have hw3 : IntKind.i64.wrap ((hs.length : Int) + 1 - (i : Int)) = (hs.length : Int) + 1 - (i : Int) := by rw [IntKind.wrap_i64]; omega
  have hin : i ≤ hs.length := by omega
  have hin2 : (i : Int) ≤ (hs.length : Int) := by omega
  have hic : (i : Int) ≤ (c : Int) := by omega
  have hb1 : (0 : Int) ≤ (i : Int) + 1 := by omega
  have htn : ((i : Int) + 1).toNat = i + 1 := by omega
  have hb2 : ¬ (G = i + 1) := by omega
  have hb3 : (i : Int) ≤ (hs.length : Int) + 1 := by omega
  have hb4 : ¬ (G = i) := by omega
  have hb6 : ¬ (c = i) := by omega
  have hb5 : (i : Int) + 1 ≤ (hs.length : Int) + 1 := by omega
  have mixed : Try.prog.follows Departure.mixedOrders = true := by kernel_rfl
  clear hsg hsg1 hv1 hg1 hg2 eC2 hC1l hC1 hC2 hAl hBl hW1 hW2 hB2 hBW hold hld hG hZ hZl ecells hr hgS hSl
  go_enter Try.func198, Try.ntmps198
  go_wp2_with (at_builtin; refine Lib.wpList_append_run _ rfl _ _ _ _ rfl _ _ rfl rfl _ _ (hrz _) ?_)
  go_region_law_o (refine step_copy_runI rfl _ _ 69 69 rfl _ _ (by simp [Act.eval, Act.put]) (by simp [Act.eval, Act.put]) (hcp2 _ _ _) ?_)
  go_wp2_with fail
  go_ret
  exact ⟨G, rfl, HEND.out.1, HEND.out.2⟩

set_option maxRecDepth 100000 in
set_option maxHeartbeats 1000000 in
theorem iInsEnd (base c vb : Nat) (a : Option Addr) (hs : List Ht) (h : Ht) (w : World) (hr : w.ownsRow base 154 2 (.slice a hs.length c) hs.length (hCells hs)) (hv : Two w vb (.int .i64 h.1) (.int .i64 h.2) 154) (hn : hs.length ≤ 60) (hbw : base ≤ w.heap.size) :
    Calls Try.prog 198 #[.slice a hs.length c, .int .i64 hs.length, .slice (some ⟨vb, 0, none⟩) 1 1] w fun e w' => ∃ g G, e = .returned (.slice (some ⟨g, 0, none⟩) (hs.length + 1) G) ∧ HRow base w' g G (hs ++ [h]) ∧ w.grownBy w' (Value.slice a hs.length c).ownBlock ∧ ((Value.slice a hs.length c).ownBlock = some g ∨ g = w.heap.size) := by
  obtain ⟨j0, hj0, hy0, hy1, hy2⟩ := info_parts Try.info154
  have HR := hidP hr
  have HV := hidP hv
  have hin : (hs.length : Int) ≤ (hs.length : Int) := Int.le_refl _
  obtain ⟨_, h2⟩ := hr
  rcases h2 with ⟨e, e2⟩ | ⟨g', cp, cur, e, hb, hg, hnc, hcm, hsz, htk⟩
  · injection e with e1 e3 e4
    subst e1 e4
    have hs0 : hs = [] := List.length_eq_zero_iff.1 e3
    subst hs0
    simp only [List.length_nil] at *
    go_enter Try.func198, Try.ntmps198
    go_wp2_with (at_builtin; refine wpList_append_lies _ rfl (.tmp 23) (.tmp 24) 69 rfl base 154 j0 _ 2 16 Try.underlying69 hj0 hy0 hy1 hy2 rfl (by omega) (.slice none 0 0) 0 (hCells []) rfl HR.out ⟨vb, 0, none⟩ 1 1 [.int .i64 h.1, .int .i64 h.2] rfl rfl (World.news_of_block (cs := #[.int .i64 h.1, .int .i64 h.2]) (t := 154) (fr := (0, 0)) HV.out) (by simp [Value.oneCell']) (by omega) (by unfold maxLen; omega) (by omega) hbw w.heap.size rfl ?_; intro gg cc w8 hown hgrow hat8 hlt8)
    go_ret
    exact ⟨gg, cc, rfl, HRow.of hown rfl rfl, hgrow, hat8⟩
  · injection e with e1 e3 e4
    subst e1 e4
    by_cases hcn : c = hs.length
    · rw [hcn] at HR ⊢
      go_enter Try.func198, Try.ntmps198
      go_wp2_with (at_builtin; refine wpList_append_lies _ rfl (.tmp 23) (.tmp 24) 69 rfl base 154 j0 _ 2 16 Try.underlying69 hj0 hy0 hy1 hy2 rfl (by omega) (.slice (some ⟨g', 0, none⟩) hs.length hs.length) hs.length (hCells hs) rfl HR.out ⟨vb, 0, none⟩ 1 1 [.int .i64 h.1, .int .i64 h.2] rfl rfl (World.news_of_block (cs := #[.int .i64 h.1, .int .i64 h.2]) (t := 154) (fr := (0, 0)) HV.out) (by simp [Value.oneCell']) (by omega) (by unfold maxLen; omega) (by omega) hbw w.heap.size rfl ?_; intro gg cc w8 hown hgrow hat8 hlt8)
      go_ret
      exact ⟨gg, cc, rfl, HRow.of hown (by simp) (by rw [hCells_append]; rfl), hgrow, hat8⟩
    · have hb4 : ¬ (c = hs.length) := hcn
      go_enter Try.func198, Try.ntmps198
      go_wp2_with (at_builtin; refine wpList_append_lies _ rfl (.tmp 23) (.tmp 24) 69 rfl base 154 j0 _ 2 16 Try.underlying69 hj0 hy0 hy1 hy2 rfl (by omega) (.slice (some ⟨g', 0, none⟩) hs.length c) hs.length (hCells hs) rfl HR.out ⟨vb, 0, none⟩ 1 1 [.int .i64 h.1, .int .i64 h.2] rfl rfl (World.news_of_block (cs := #[.int .i64 h.1, .int .i64 h.2]) (t := 154) (fr := (0, 0)) HV.out) (by simp [Value.oneCell']) (by omega) (by unfold maxLen; omega) (by omega) hbw w.heap.size rfl ?_; intro gg cc w8 hown hgrow hat8 hlt8)
      go_ret
      exact ⟨gg, cc, rfl, HRow.of hown (by simp) (by rw [hCells_append]; rfl), hgrow, hat8⟩

theorem iInsert (base c i vb : Nat) (a : Option Addr) (hs : List Ht) (h : Ht) (w : World) (hr : w.ownsRow base 154 2 (.slice a hs.length c) hs.length (hCells hs)) (hv : Two w vb (.int .i64 h.1) (.int .i64 h.2) 154) (hne : (Value.slice a hs.length c).ownBlock ≠ some vb) (hi : i ≤ hs.length) (hn : hs.length ≤ 60) (hbw : base ≤ w.heap.size) :
    Calls Try.prog 198 #[.slice a hs.length c, .int .i64 i, .slice (some ⟨vb, 0, none⟩) 1 1] w fun e w' => ∃ g G, e = .returned (.slice (some ⟨g, 0, none⟩) (hs.length + 1) G) ∧ HRow base w' g G (hs.take i ++ h :: hs.drop i) ∧ w.grownBy w' (Value.slice a hs.length c).ownBlock ∧ ((Value.slice a hs.length c).ownBlock = some g ∨ g = w.heap.size) := by
  rcases Nat.lt_or_ge i hs.length with hlt | hge
  · obtain ⟨g, rfl⟩ : ∃ g, a = some ⟨g, 0, none⟩ := by
      obtain ⟨_, h2⟩ := hr
      rcases h2 with ⟨e, e2⟩ | ⟨g', cp, cur, e, _⟩
      · omega
      · injection e with e1; exact ⟨g', e1⟩
    have hrow : HRow base w g c hs := hr
    have hvg : vb ≠ g := fun e => hne (by simp [Value.ownBlock, e])
    rcases Nat.lt_or_ge c (hs.length + 1) with hc | hc
    · refine (iInsGrow base g c i vb hs h w hrow hv hlt hc hn hbw).mono ?_
      rintro e w' ⟨G, rfl, h1, h2⟩
      exact ⟨w.heap.size, G, rfl, h1, ⟨h2.os, h2.tape, h2.output, h2.size, fun k hk _ => h2.block k hk⟩, Or.inr rfl⟩
    · refine (iInsShift base g c i vb hs h w hrow hv hvg hlt hc hn).mono ?_
      rintro e w' ⟨rfl, h1, h2⟩
      exact ⟨g, c, rfl, h1, h2, Or.inl rfl⟩
  · have hin : i = hs.length := by omega
    subst hin
    refine (iInsEnd base c vb a hs h w hr hv hn hbw).mono ?_
    rintro e w' ⟨g, G, rfl, h1, h2, h3⟩
    refine ⟨g, G, rfl, ?_, h2, h3⟩
    rw [List.take_length, List.drop_length]
    exact h1

end Go.Proofs.Ytodielfilhodeaa
