/-
  Rows of values of one cell each: what slices.Insert leaves (no program is named here).
  The library's slices.Insert over numbers (elements of one cell): one more at a place, in place or in a new row.
  The library's slices.BinarySearch over numbers: behind how many less ones a number comes.
  The library's slices.Insert over the program's sights (elements of one cell): one more at a place, in place or in a new row.
  What the program sees stands behind an interface: which methods are entered through it, the assertion to the other interface, and hitOf.
  The program's sightOf: what is seen of a mark.
  The program's gaze in memory; the place of a hit among what is seen, by sort.Search.
  The program's see: one more is seen, or it was seen before.
  The program's first and firstClosed: the first of what is seen that was not opened.
  The program's open: one of those seen is opened, and all that it is linked to are seen.
  The program's openFirst, mayLook and lookedFrom.
  The program's Walk and Islands.
  The program's Islands.
-/
import Derived.Test.YtfbhohpbhjlihaaGreatHCellsZz
import Derived.Test.YtfbhohpbhjlihaaGreatArgsZz
import Derived.Test.YtfbhohpbhjlihaaGreatBCopyZz
import Derived.Test.YtfbhohpbhjlihaaGreatAppendZz
import Derived.Shelf.Spec.SlicesInsert
import Derived.Laws.CopyOwn
import Derived.Lib.AppendZerosOnto
import Derived.Deep.RegionHeld3
import Derived.Test.YtfbhohpbhjlihaaGreatMathZz
import Derived.BigQuiet
import Derived.Test.YtfbhohpbhjlihaaGreatFg0Zz
import Derived.Test.YtfbhohpbhjlihaaGreatHSpecZz
import Derived.Test.YtfbhohpbhjlihaaGreatJRwZz
import Derived.Test.YtfbhohpbhjlihaaGreatCopyZz
import Derived.Test.YtfbhohpbhjlihaaGreatLastZz
import Derived.Test.YtfbhohpbhjlihaaGreatZRadZz
import Derived.Test.YtfbhohpbhjlihaaGreatKSuitZz
import Derived.Test.YtfbhohpbhjlihaaGreatFeHelpZz
namespace Go.Proofs.YtfbhohpbhjlihaaGreat
open Go Go.RowKit

/-- copy(dst, src): some cells of a row that is known whole, elements of some cells. -/
theorem run_copy_part {P : Program} (w : World) (dT sT ty elem : TypeId) (g o dLen dCap : Nat) (a : Addr) (sLen sCap size : Nat) (cur : List Value) (t : TypeId) (cs : List Value)
    (hu : P.underlying dT = some (.slice elem)) (hs : (P.info? elem).map (·.size) = some size)
    (hg : w.heap[g]? = some (.cells cur.toArray t (0, 0))) (hn : cs.length = Nat.min sLen dLen * size) (hfit : o + cs.length ≤ cur.length)
    (hsrc : ∀ j v, cs[j]? = some v → w.cell? (a.add j) = some v) (h1 : ∀ v ∈ cs, v.oneCell' = true) :
    (Builtin.copy_ #[dT, sT] ty #[.slice (some ⟨g, o, none⟩) dLen dCap, .slice (some a) sLen sCap]).run P w = .ok (goInt (Nat.min sLen dLen)) (w.setRow g (splice cur o cs).toArray) := by
  have hl := run_loadCells_list (P := P) w a cs hsrc
  have hst := run_storeCells_at P g o t cs 0 cur.toArray w hg (by simpa using hfit) h1
  have e : (cur.toArray.toList.take (o + 0) ++ cs ++ cur.toArray.toList.drop (o + 0 + cs.length)).toArray = (splice cur o cs).toArray := by
    simp [splice]
  rw [e] at hst
  cases hq : P.info? elem with
  | none => simp [hq] at hs
  | some i =>
    have hi : i.size = size := by simpa [hq] using hs
    rw [hn] at hl
    simp [Builtin.copy_, run_underlying hu, Builtin.lenOf, Builtin.firstCells, sizeOf, typeInfo, hq, hi, hl, hst]
theorem ins_cells1 {A B S X : List Value} (hX : X.length = 1) (hS : 1 ≤ S.length) :
    splice (splice (A ++ (B ++ S)) (A.length + 1) B) A.length X = A ++ (X ++ (B ++ S.drop 1)) := by
  have e1 : splice (A ++ (B ++ S)) (A.length + 1) B = A ++ ((B ++ S).take 1 ++ (B ++ S.drop 1)) := by
    unfold splice
    rw [List.take_append, List.drop_append]
    rw [List.take_of_length_le (by omega : A.length ≤ A.length + 1), List.drop_of_length_le (by omega : A.length ≤ A.length + 1 + B.length)]
    rw [show A.length + 1 - A.length = 1 by omega, show A.length + 1 + B.length - A.length = B.length + 1 by omega]
    rw [List.drop_append, List.drop_of_length_le (by omega : B.length ≤ B.length + 1), show B.length + 1 - B.length = 1 by omega]
    simp
  have h2 : ((B ++ S).take 1).length = 1 := by simp; omega
  rw [e1]
  unfold splice
  rw [List.take_left', List.drop_append, hX]
  · rw [List.drop_of_length_le (by omega : A.length ≤ A.length + 1), show A.length + 1 - A.length = 1 by omega]
    rw [List.drop_left' h2]
    simp
  · rfl
theorem grow_cells1 {A B Z X : List Value} (hX : X.length = 1) :
    splice (splice (A ++ Z) A.length X) (A.length + 1) B = A ++ (X ++ (B ++ Z.drop (1 + B.length))) := by
  have e1 : splice (A ++ Z) A.length X = A ++ (X ++ Z.drop 1) := by
    unfold splice
    rw [List.take_left', List.drop_append, hX]
    · rw [List.drop_of_length_le (by omega : A.length ≤ A.length + 1), show A.length + 1 - A.length = 1 by omega]
      simp
    · rfl
  rw [e1]
  have e2 : A ++ (X ++ Z.drop 1) = (A ++ X) ++ Z.drop 1 := by simp
  have hl : (A ++ X).length = A.length + 1 := by simp [hX]
  rw [e2]
  unfold splice
  rw [List.take_left' hl, List.drop_append, hl]
  rw [List.drop_of_length_le (by omega : (A ++ X).length ≤ A.length + 1 + B.length), show A.length + 1 + B.length - (A.length + 1) = B.length by omega, List.drop_drop]
  simp [Nat.add_comm]
def Seg2 (w : World) (g : Nat) (cs : List Value) : Prop := ∀ j v, cs[j]? = some v → w.cell? ⟨g, j, none⟩ = some v
/-- A block of one cell. -/
def One (w : World) (p : Nat) (v : Value) (t : TypeId) : Prop := w.heap[p]? = some (.cells #[v] t (0, 0))
theorem One.lt {w : World} {p : Nat} {v : Value} {t : TypeId} (h : One w p v t) : p < w.heap.size := by
  unfold One at h
  rcases Nat.lt_or_ge p w.heap.size with h1 | h1
  · exact h1
  · rw [Array.getElem?_eq_none h1] at h; cases h
theorem One.c0 {w : World} {p : Nat} {v : Value} {t : TypeId} (h : One w p v t) : w.cell? ⟨p, 0, none⟩ = some v := by unfold One at h; simp [World.cell?, h]
theorem One.frozen {w : World} {p : Nat} {v : Value} {t : TypeId} (h : One w p v t) (j : Nat) : w.frozen? ⟨p, j, none⟩ = false := by unfold One at h; simp [World.frozen?, h]
theorem One.below {w w' : World} {p : Nat} {v : Value} {t : TypeId} (h : One w p v t) (hb : Below w.heap.size w w') : One w' p v t := (hb.block p h.lt).trans h
theorem One.new (w : World) (v : Value) (t : TypeId) : One (w.alloc (.cells #[v] t)) w.heap.size v t := heap_alloc_new w _
end Go.Proofs.YtfbhohpbhjlihaaGreat
namespace Go.Proofs.YtfbhohpbhjlihaaGreat
open Go Go.RowKit

theorem info_elI : (Tryz.prog.info? 2).map (fun i => (i.zero, i.size, i.bytes)) = some (some (Value.int .i64 0), 1, 8) := by kernel_rfl
/-- A row of values of one cell, of the call's own. -/
def VRowI (base : Nat) (w : World) (g c : Nat) (vs : List Value) : Prop := w.ownsRow base 2 1 (.slice (some ⟨g, 0, none⟩) vs.length c) vs.length vs
theorem VRowI.lt {base : Nat} {w : World} {g c : Nat} {vs : List Value} (h : VRowI base w g c vs) : base ≤ g ∧ g < w.heap.size := World.ownsRow.lt h g rfl
theorem vrow_cellsI {base : Nat} {w : World} {g c : Nat} {vs : List Value} (h : VRowI base w g c vs) : ∃ S : List Value, w.heap[g]? = some (.cells (vs ++ S).toArray 2 (0, 0)) ∧ S.length = c - vs.length ∧ base ≤ g ∧ vs.length ≤ c ∧ c ≤ maxLen := by
  obtain ⟨h1, h2⟩ := h
  rcases h2 with ⟨e, _⟩ | ⟨g', cp, cur, e, hb, hg, hnc, hcm, hsz, htk⟩
  · cases e
  · injection e with e1 e2 e3
    injection e1 with e1
    injection e1 with e1
    subst e1 e3
    rw [Nat.mul_one] at htk hsz
    refine ⟨cur.toList.drop vs.length, ?_, ?_, hb, hnc, hcm⟩
    · have : (vs ++ cur.toList.drop vs.length).toArray = cur := by
        have e := List.take_append_drop vs.length cur.toList
        rw [htk] at e
        rw [e]
      rw [this]; exact hg
    · rw [List.length_drop, Array.length_toList, hsz]
theorem vrow_ofI {base : Nat} {w : World} {g c : Nat} {vs : List Value} {S : List Value} (hg : w.heap[g]? = some (.cells (vs ++ S).toArray 2 (0, 0))) (hS : S.length = c - vs.length) (hb : base ≤ g) (hnc : vs.length ≤ c) (hcm : c ≤ maxLen) : VRowI base w g c vs := by
  refine ⟨by simp, Or.inr ⟨g, c, _, rfl, hb, hg, hnc, hcm, ?_, ?_⟩⟩
  · simp [hS]; omega
  · have e : (vs ++ S).toArray.toList = vs ++ S := rfl
    rw [e, Nat.mul_one, List.take_left' rfl]

set_option maxRecDepth 100000 in
set_option maxHeartbeats 4000000 in
theorem iInsShiftI (base g c i vb : Nat) (hs : List Value) (h : Value) (w : World) (ho : ∀ v ∈ hs, v.oneCell' = true) (hho : h.oneCell' = true) (hr : VRowI base w g c hs) (hv : One w vb h 2) (hne : vb ≠ g) (hi : i < hs.length) (hroom : hs.length + 1 ≤ c) (hn : hs.length ≤ 1048576) :
    Calls Tryz.prog 165 #[.slice (some ⟨g, 0, none⟩) hs.length c, .int .i64 i, .slice (some ⟨vb, 0, none⟩) 1 1] w fun e w' => e = .returned (.slice (some ⟨g, 0, none⟩) (hs.length + 1) c) ∧ VRowI base w' g c (hs.take i ++ h :: hs.drop i) ∧ w.grownBy w' (some g) := by
  obtain ⟨S, hgS, hSl, hbg, hnc, hcm⟩ := vrow_cellsI hr
  have hov : ∀ o lb cb, (callFunc 218 #[.slice (some ⟨vb, 0, none⟩) 1 1, .slice (some ⟨g, o, none⟩) lb cb]).run Tryz.prog w = .ok (.value (.bool false)) w := fun o lb cb => by
    rw [run_callFunc_extern Tryz.func218 (by kernel_rfl) (by kernel_rfl) (by kernel_rfl) (e := Extern.SlicesOverlaps.overlaps #[28, 28] #[4]) (by kernel_rfl),
      Lib.run_overlaps_apart w 28 4 2 Tryz.underlying28 1 (fun _ => by kernel_rfl) ⟨vb, 0, none⟩ ⟨g, o, none⟩ 1 1 lb cb hne 2 2 1 (hs ++ S).length (by unfold One at hv; simp [World.shape?, hv]) (by simp [World.shape?, hgS]) (by rw [List.length_append]; omega) (hv.frozen 0) (hv.frozen 1)]
    rfl
  have hsz2 : (Tryz.prog.info? 2).map (·.size) = some 1 := by kernel_rfl
  have ecur : hs ++ S = hs.take i ++ (hs.drop i ++ S) := by rw [← List.append_assoc, List.take_append_drop]
  have hAl : (hs.take i).length = i := by simp; omega
  have hBl : (hs.drop i).length = hs.length - i := by simp
  obtain ⟨C1, hC1⟩ : ∃ C1, C1 = splice (hs ++ S) (i + 1) (hs.drop i) := ⟨_, rfl⟩
  have hC1l : C1.length = (hs ++ S).length := by rw [hC1]; exact length_splice _ _ _ (by rw [hBl, List.length_append, hSl]; omega)
  obtain ⟨C2, hC2⟩ : ∃ C2, C2 = splice C1 i [h] := ⟨_, rfl⟩
  have eC2 : C2 = (hs.take i ++ h :: hs.drop i) ++ S.drop 1 := by
    have h1 := ins_cells1 (A := hs.take i) (B := hs.drop i) (S := S) (X := [h]) rfl (by omega)
    rw [hAl] at h1
    rw [hC2, hC1, ecur, h1]
    simp
  have hsg : Seg2 w g hs := fun j v hj => by
    have hjl : j < hs.length := by
      rcases Nat.lt_or_ge j hs.length with h1 | h1
      · exact h1
      · rw [List.getElem?_eq_none h1] at hj; cases hj
    simp only [World.cell?, hgS]
    simp [List.getElem?_append_left hjl, hj]
  have hcp1 : ∀ ty dc sc, (Builtin.copy_ #[28, 28] ty #[.slice (some ⟨g, i + 1, none⟩) (hs.length - i) dc, .slice (some ⟨g, i, none⟩) (hs.length + 1 - i) sc]).run Tryz.prog w.drew = .ok (goInt (Nat.min (hs.length + 1 - i) (hs.length - i))) (w.drew.setRow g C1.toArray) := fun ty dc sc => by
    rw [hC1]
    exact run_copy_part w.drew _ _ ty 2 g (i + 1) (hs.length - i) dc ⟨g, i, none⟩ (hs.length + 1 - i) sc 1 (hs ++ S) 2 (hs.drop i) Tryz.underlying28 hsz2 hgS (by rw [hBl, Nat.mul_one]; simp only [Nat.min_def]; split <;> omega) (by rw [hBl, List.length_append, hSl]; omega)
      (fun j v hj => by
        rw [List.getElem?_drop] at hj
        rw [Addr.add_lit]
        exact hsg (i + j) v hj) (fun v hv => ho v (List.mem_of_mem_drop hv))
  obtain ⟨W1, hW1⟩ : ∃ W1, W1 = w.drew.setRow g C1.toArray := ⟨_, rfl⟩
  have hg1 : W1.heap[g]? = some (.cells C1.toArray 2 (0, 0)) := by rw [hW1]; exact setRow_heap w.drew g _ _ 2 _ hgS
  have hv1 : One W1 vb h 2 := by rw [hW1]; exact (setRow_other w.drew g vb C1.toArray hne).trans hv
  have hmin1 : Nat.min 1 (hs.length + 1 - i) = 1 := by simp only [Nat.min_def]; split <;> omega
  have hcp2 : ∀ ty dc, (Builtin.copy_ #[28, 28] ty #[.slice (some ⟨g, i, none⟩) (hs.length + 1 - i) dc, .slice (some ⟨vb, 0, none⟩) 1 1]).run Tryz.prog W1 = .ok (goInt (Nat.min 1 (hs.length + 1 - i))) (W1.setRow g C2.toArray) := fun ty dc => by
    rw [hC2]
    exact run_copy_part W1 _ _ ty 2 g i (hs.length + 1 - i) dc ⟨vb, 0, none⟩ 1 1 1 C1 2 [h] Tryz.underlying28 hsz2 hg1 (by rw [hmin1]; rfl) (by rw [hC1l, List.length_append]; simp; omega)
      (fun j v hj => by
        rw [Addr.add_lit]
        match j, hj with
        | 0, hj => simp at hj; rw [← hj]; exact hv1.c0
        | j + 1, hj => simp at hj) (by intro v hv; simp at hv; rw [hv]; exact hho)
  rw [← hW1] at hcp1
  have HEND : Hid (VRowI base (W1.setRow g C2.toArray) g c (hs.take i ++ h :: hs.drop i) ∧ w.grownBy (W1.setRow g C2.toArray) (some g)) := by
    refine ⟨vrow_ofI (S := S.drop 1) ?_ ?_ hbg ?_ hcm, ?_⟩
    · rw [← eC2]; exact setRow_heap W1 g _ _ 2 _ hg1
    · simp; omega
    · simp; omega
    · refine ⟨by rw [hW1]; rfl, by rw [hW1]; rfl, by rw [hW1]; rfl, by rw [hW1]; simp [World.setRow], fun k _ hk => ?_⟩
      have hkg : k ≠ g := fun e => hk (by rw [e])
      rw [setRow_other W1 g k C2.toArray hkg, hW1]
      exact setRow_other w.drew g k C1.toArray hkg
  clear hsg hv1 hg1 eC2 hC1l hC1 hC2 ecur hAl hBl hW1 ho hho
  have hz2 : ¬ ((i : Int) = (hs.length : Int)) := by omega
  have hw1 : IntKind.i64.wrap ((i : Int) + 1) = (i : Int) + 1 := by rw [IntKind.wrap_i64]; omega
  have hw2 : IntKind.i64.wrap ((hs.length : Int) + 1) = (hs.length : Int) + 1 := by rw [IntKind.wrap_i64]; omega
  have hcc : ¬ ((hs.length : Int) + 1 > (c : Int)) := by omega
  have hin : i ≤ hs.length := by omega
  have hin2 : (i : Int) ≤ (hs.length : Int) := by omega
  have hb1 : (0 : Int) ≤ (i : Int) + 1 := by omega
  have htn : ((i : Int) + 1).toNat = i + 1 := by omega
  have hb2 : ¬ (c = i + 1) := by omega
  have hb3 : (i : Int) ≤ (hs.length : Int) + 1 := by omega
  have hb4 : ¬ (c = i) := by omega
  have mixed : Tryz.prog.follows Departure.mixedOrders = true := by kernel_rfl
  have hb5 : (i : Int) + 1 ≤ (hs.length : Int) + 1 := by omega
  go_enter Tryz.func165, Tryz.ntmps165
  go_wp2_with (simp only [hov])
  go_region_law_o (refine step_copy_runI rfl _ _ 28 28 rfl _ _ (by simp [Act.eval, Act.put]) (by simp [Act.eval, Act.put]) (hcp1 _ _ _) ?_)
  go_wp2_with fail
  go_ret
  exact ⟨rfl, HEND.out.1, HEND.out.2⟩

set_option maxRecDepth 100000 in
set_option maxHeartbeats 4000000 in
theorem iInsGrowI (base g c i vb : Nat) (hs : List Value) (h : Value) (w : World) (ho : ∀ v ∈ hs, v.oneCell' = true) (hho : h.oneCell' = true) (hr : VRowI base w g c hs) (hv : One w vb h 2) (hi : i < hs.length) (hroom : c < hs.length + 1) (hn : hs.length ≤ 1048576) (hbw : base ≤ w.heap.size) :
    Calls Tryz.prog 165 #[.slice (some ⟨g, 0, none⟩) hs.length c, .int .i64 i, .slice (some ⟨vb, 0, none⟩) 1 1] w fun e w' => ∃ G, e = .returned (.slice (some ⟨w.heap.size, 0, none⟩) (hs.length + 1) G) ∧ VRowI base w' w.heap.size G (hs.take i ++ h :: hs.drop i) ∧ Below w.heap.size w w' := by
  obtain ⟨S, hgS, hSl, hbg, hnc, hcm⟩ := vrow_cellsI hr
  obtain ⟨j0, hj0, hy0, hy1, hy2⟩ := info_parts info_elI
  have hsz2 : (Tryz.prog.info? 2).map (·.size) = some 1 := by kernel_rfl
  have hgw : g < w.heap.size := hr.lt.2
  have hvw : vb < w.heap.size := hv.lt
  have hsg : Seg2 w g hs := fun j v hj => by
    have hjl : j < hs.length := by
      rcases Nat.lt_or_ge j hs.length with h1 | h1
      · exact h1
      · rw [List.getElem?_eq_none h1] at hj; cases hj
    simp only [World.cell?, hgS]
    simp [List.getElem?_append_left hjl, hj]
  have hAl : (hs.take i).length = i := by simp; omega
  have hBl : (hs.drop i).length = hs.length - i := by simp
  have hld : (loadCells ⟨g, 0, none⟩ i).run Tryz.prog w.drew = .ok (hs.take i).toArray w.drew := by
    have h1 := run_loadCells_list (P := Tryz.prog) w.drew ⟨g, 0, none⟩ (hs.take i) (fun j v hj => by
      rw [Addr.add_lit, Nat.zero_add]
      refine hsg j v ?_
      have hjl : j < (hs.take i).length := by
        rcases Nat.lt_or_ge j (hs.take i).length with h1 | h1
        · exact h1
        · rw [List.getElem?_eq_none h1] at hj; cases hj
      have e : hs = hs.take i ++ hs.drop i := by rw [List.take_append_drop]
      rw [e, List.getElem?_append_left hjl]; exact hj)
    rwa [hAl] at h1
  have hold : (Builtin.firstCells j0.size i (.slice (some ⟨g, 0, none⟩) i c)).run Tryz.prog w.drew = .ok (hs.take i).toArray w.drew := by
    rw [hy1]
    simp [Builtin.firstCells, hld]
  have hrz := fun ty => Lib.run_append_grow_zeros (P := Tryz.prog) w 28 3 ty 2 j0 _ .i64 .i64 Tryz.underlying28 Tryz.underlying3 hj0 hy0 (some ⟨g, 0, none⟩) i c (hs.take i) hold (hs.length + 1 - i) (by omega) (by omega) (by omega) (by omega) (by rw [hy2]; omega) (growslice_fits (by omega) (by rw [hy2]; omega))
  rw [show i + (hs.length + 1 - i) = hs.length + 1 by omega, show ((hs.length + 1 - i : Nat) : Int) = (hs.length : Int) + 1 - (i : Int) by omega] at hrz
  have hG1 := grownCap_ge w (hs.length + 1) c 2
  have hG2 := grownCap_le_maxLen w (hs.length + 1) c 2 (by unfold maxLen; omega)
  obtain ⟨G, hG⟩ : ∃ G, G = grownCap w (hs.length + 1) c 2 := ⟨_, rfl⟩
  rw [← hG] at hrz hG1 hG2
  obtain ⟨Z, hZ⟩ : ∃ Z, Z = (Builtin.zeroCells (Value.int .i64 0).cells (hs.length + 1 - i)).toList ++ (Builtin.zeroCells (Value.int .i64 0).cells (G - (hs.length + 1))).toList := ⟨_, rfl⟩
  have hZl : Z.length = G - i := by
    have e : ∀ m, (Builtin.zeroCells (Value.int .i64 0).cells m).toList.length = m := fun m => by simp [Builtin.zeroCells, Value.cells]
    rw [hZ, List.length_append, e, e]
    omega
  have ecells : (hs.take i).toArray ++ Builtin.zeroCells (Value.int .i64 0).cells (hs.length + 1 - i) ++ Builtin.zeroCells (Value.int .i64 0).cells (G - (hs.length + 1)) = (hs.take i ++ Z).toArray := by
    apply Array.ext'
    rw [hZ]
    simp
  rw [ecells] at hrz
  obtain ⟨W1, hW1⟩ : ∃ W1, W1 = w.drew.alloc (.cells (hs.take i ++ Z).toArray 2) := ⟨_, rfl⟩
  rw [← hW1] at hrz
  have hBW : Below w.heap.size w W1 := by rw [hW1]; exact ((Below.refl w.heap.size w).drew).alloc (Nat.le_refl _) _
  have hg1 : W1.heap[w.heap.size]? = some (.cells (hs.take i ++ Z).toArray 2 (0, 0)) := by rw [hW1]; exact heap_alloc_new w.drew _
  have hv1 : One W1 vb h 2 := (hBW.block vb hvw).trans hv
  have hsg1 : Seg2 W1 g hs := fun j v hj => (hBW.cell (p := ⟨g, j, none⟩) hgw).trans (hsg j v hj)
  obtain ⟨C1, hC1⟩ : ∃ C1, C1 = splice (hs.take i ++ Z) i [h] := ⟨_, rfl⟩
  have hC1l : C1.length = (hs.take i ++ Z).length := by rw [hC1]; exact length_splice _ _ _ (by rw [List.length_append, hAl, hZl]; simp; omega)
  obtain ⟨C2, hC2⟩ : ∃ C2, C2 = splice C1 (i + 1) (hs.drop i) := ⟨_, rfl⟩
  have eC2 : C2 = (hs.take i ++ h :: hs.drop i) ++ Z.drop (1 + (hs.drop i).length) := by
    have h1 := grow_cells1 (A := hs.take i) (B := hs.drop i) (Z := Z) (X := [h]) rfl
    rw [hAl] at h1
    rw [hC2, hC1, h1]
    simp
  have hmin1 : Nat.min 1 (hs.length + 1 - i) = 1 := by simp only [Nat.min_def]; split <;> omega
  have hcp1 : ∀ ty dc, (Builtin.copy_ #[28, 28] ty #[.slice (some ⟨w.heap.size, i, none⟩) (hs.length + 1 - i) dc, .slice (some ⟨vb, 0, none⟩) 1 1]).run Tryz.prog W1 = .ok (goInt (Nat.min 1 (hs.length + 1 - i))) (W1.setRow w.heap.size C1.toArray) := fun ty dc => by
    rw [hC1]
    exact run_copy_part W1 _ _ ty 2 w.heap.size i (hs.length + 1 - i) dc ⟨vb, 0, none⟩ 1 1 1 (hs.take i ++ Z) 2 [h] Tryz.underlying28 hsz2 hg1 (by rw [hmin1]; rfl) (by rw [List.length_append, hAl, hZl]; simp; omega)
      (fun j v hj => by
        rw [Addr.add_lit]
        match j, hj with
        | 0, hj => simp at hj; rw [← hj]; exact hv1.c0
        | j + 1, hj => simp at hj) (by intro v hv; simp at hv; rw [hv]; exact hho)
  obtain ⟨W2, hW2⟩ : ∃ W2, W2 = W1.setRow w.heap.size C1.toArray := ⟨_, rfl⟩
  have hg2 : W2.heap[w.heap.size]? = some (.cells C1.toArray 2 (0, 0)) := by rw [hW2]; exact setRow_heap W1 w.heap.size _ _ 2 _ hg1
  have hB2 : Below w.heap.size w W2 := by rw [hW2]; exact below_setRow hBW (Nat.le_refl _) _
  have hcp2 : ∀ ty dc sc, (Builtin.copy_ #[28, 28] ty #[.slice (some ⟨w.heap.size, i + 1, none⟩) (hs.length - i) dc, .slice (some ⟨g, i, none⟩) (hs.length - i) sc]).run Tryz.prog W2.drew = .ok (goInt (Nat.min (hs.length - i) (hs.length - i))) (W2.drew.setRow w.heap.size C2.toArray) := fun ty dc sc => by
    rw [hC2]
    exact run_copy_part W2.drew _ _ ty 2 w.heap.size (i + 1) (hs.length - i) dc ⟨g, i, none⟩ (hs.length - i) sc 1 C1 2 (hs.drop i) Tryz.underlying28 hsz2 hg2 (by rw [hBl, Nat.mul_one]; simp only [Nat.min_def]; split <;> omega) (by rw [hC1l, List.length_append, hAl, hZl, hBl]; omega)
      (fun j v hj => by
        rw [List.getElem?_drop] at hj
        rw [Addr.add_lit]
        exact (hB2.cell (p := ⟨g, i + j, none⟩) hgw).trans (hsg (i + j) v hj)) (fun v hv => ho v (List.mem_of_mem_drop hv))
  rw [← hW2] at hcp1
  have HEND : Hid (VRowI base (W2.drew.setRow w.heap.size C2.toArray) w.heap.size G (hs.take i ++ h :: hs.drop i) ∧ Below w.heap.size w (W2.drew.setRow w.heap.size C2.toArray)) := by
    refine ⟨vrow_ofI (S := Z.drop (1 + (hs.drop i).length)) ?_ ?_ hbw ?_ hG2, below_setRow hB2.drew (Nat.le_refl _) _⟩
    · rw [← eC2]; exact setRow_heap W2.drew w.heap.size _ _ 2 _ hg2
    · rw [List.length_drop, hBl, hZl]; simp; omega
    · simp; omega
  have hcc : (hs.length : Int) + 1 > (c : Int) := by omega
  have hz2 : ¬ ((i : Int) = (hs.length : Int)) := by omega
  have hw1 : IntKind.i64.wrap ((i : Int) + 1) = (i : Int) + 1 := by rw [IntKind.wrap_i64]; omega
  have hw2 : IntKind.i64.wrap ((hs.length : Int) + 1) = (hs.length : Int) + 1 := by rw [IntKind.wrap_i64]; omega
  have hw3 : IntKind.i64.wrap ((hs.length : Int) + 1 - (i : Int)) = (hs.length : Int) + 1 - (i : Int) := by rw [IntKind.wrap_i64]; omega
  have hin : i ≤ hs.length := by omega
  have hin2 : (i : Int) ≤ (hs.length : Int) := by omega
  have hic : (i : Int) ≤ (c : Int) := by omega
  have hb1 : (0 : Int) ≤ (i : Int) + 1 := by omega
  have htn : ((i : Int) + 1).toNat = i + 1 := by omega
  have hb2 : ¬ (G = i + 1) := by omega
  have hb3 : (i : Int) ≤ (hs.length : Int) + 1 := by omega
  have hb4 : ¬ (G = i) := by omega
  have hb6 : ¬ (c = i) := by omega
  have hb5 : (i : Int) + 1 ≤ (hs.length : Int) + 1 := by omega
  have mixed : Tryz.prog.follows Departure.mixedOrders = true := by kernel_rfl
  clear hsg hsg1 hv1 hg1 hg2 eC2 hC1l hC1 hC2 hAl hBl hW1 hW2 hB2 hBW hold hld hG hZ hZl ecells hr hgS hSl ho hho
  go_enter Tryz.func165, Tryz.ntmps165
  go_wp2_with (at_builtin; refine Lib.wpList_append_run _ rfl _ _ _ _ rfl _ _ rfl rfl _ _ (hrz _) ?_)
  go_region_law_o (refine step_copy_runI rfl _ _ 28 28 rfl _ _ (by simp [Act.eval, Act.put]) (by simp [Act.eval, Act.put]) (hcp2 _ _ _) ?_)
  go_wp2_with fail
  go_ret
  exact ⟨G, rfl, HEND.out.1, HEND.out.2⟩
theorem VRowI.of {base : Nat} {w : World} {g c n : Nat} {vs xs : List Value} (h : w.ownsRow base 2 1 (.slice (some ⟨g, 0, none⟩) n c) n xs) (hn : n = vs.length) (hx : xs = vs) : VRowI base w g c vs := by
  subst hn hx; exact h

set_option maxRecDepth 100000 in
set_option maxHeartbeats 1000000 in
theorem iInsEndI (base c vb : Nat) (a : Option Addr) (hs : List Value) (h : Value) (w : World) (hho : h.oneCell' = true) (hr : w.ownsRow base 2 1 (.slice a hs.length c) hs.length hs) (hv : One w vb h 2) (hn : hs.length ≤ 1048576) (hbw : base ≤ w.heap.size) :
    Calls Tryz.prog 165 #[.slice a hs.length c, .int .i64 hs.length, .slice (some ⟨vb, 0, none⟩) 1 1] w fun e w' => ∃ g G, e = .returned (.slice (some ⟨g, 0, none⟩) (hs.length + 1) G) ∧ VRowI base w' g G (hs ++ [h]) ∧ w.grownBy w' (Value.slice a hs.length c).ownBlock ∧ ((Value.slice a hs.length c).ownBlock = some g ∨ g = w.heap.size) := by
  obtain ⟨j0, hj0, hy0, hy1, hy2⟩ := info_parts info_elI
  have HR := hidP hr
  have HV := hidP hv
  have hin : (hs.length : Int) ≤ (hs.length : Int) := Int.le_refl _
  obtain ⟨hx1, h2⟩ := hr
  clear hx1
  rcases h2 with ⟨e, e2⟩ | ⟨g', cp, cur, e, hb, hg, hnc, hcm, hsz, htk⟩
  · injection e with e1 e3 e4
    subst e1 e4
    have hs0 : hs = [] := List.length_eq_zero_iff.1 e3
    subst hs0
    simp only [List.length_nil] at *
    go_enter Tryz.func165, Tryz.ntmps165
    go_wp2_with (at_builtin; refine wpList_append_lies _ rfl (.tmp 23) (.tmp 24) 28 rfl base 2 j0 _ 1 8 Tryz.underlying28 hj0 hy0 hy1 hy2 rfl (by omega) (.slice none 0 0) 0 [] rfl HR.out ⟨vb, 0, none⟩ 1 1 [h] rfl rfl (World.news_of_block (cs := #[h]) (t := 2) (fr := (0, 0)) HV.out) (by intro v hv; simp at hv; rw [hv]; exact hho) (by omega) (by unfold maxLen; omega) (by omega) hbw w.heap.size rfl ?_; intro gg cc w8 hown hgrow hat8 hlt8)
    go_ret
    exact ⟨gg, cc, rfl, VRowI.of hown rfl rfl, hgrow, hat8⟩
  · injection e with e1 e3 e4
    subst e1 e4
    clear htk hsz hg e3
    by_cases hcn : c = hs.length
    · rw [hcn] at HR ⊢
      go_enter Tryz.func165, Tryz.ntmps165
      go_wp2_with (at_builtin; refine wpList_append_lies _ rfl (.tmp 23) (.tmp 24) 28 rfl base 2 j0 _ 1 8 Tryz.underlying28 hj0 hy0 hy1 hy2 rfl (by omega) (.slice (some ⟨g', 0, none⟩) hs.length hs.length) hs.length hs rfl HR.out ⟨vb, 0, none⟩ 1 1 [h] rfl rfl (World.news_of_block (cs := #[h]) (t := 2) (fr := (0, 0)) HV.out) (by intro v hv; simp at hv; rw [hv]; exact hho) (by omega) (by unfold maxLen; omega) (by omega) hbw w.heap.size rfl ?_; intro gg cc w8 hown hgrow hat8 hlt8)
      go_ret
      exact ⟨gg, cc, rfl, VRowI.of hown (by simp) rfl, hgrow, hat8⟩
    · have hb4 : ¬ (c = hs.length) := hcn
      go_enter Tryz.func165, Tryz.ntmps165
      go_wp2_with (at_builtin; refine wpList_append_lies _ rfl (.tmp 23) (.tmp 24) 28 rfl base 2 j0 _ 1 8 Tryz.underlying28 hj0 hy0 hy1 hy2 rfl (by omega) (.slice (some ⟨g', 0, none⟩) hs.length c) hs.length hs rfl HR.out ⟨vb, 0, none⟩ 1 1 [h] rfl rfl (World.news_of_block (cs := #[h]) (t := 2) (fr := (0, 0)) HV.out) (by intro v hv; simp at hv; rw [hv]; exact hho) (by omega) (by unfold maxLen; omega) (by omega) hbw w.heap.size rfl ?_; intro gg cc w8 hown hgrow hat8 hlt8)
      go_ret
      exact ⟨gg, cc, rfl, VRowI.of hown (by simp) rfl, hgrow, hat8⟩

theorem iInsertI (base c i vb : Nat) (a : Option Addr) (hs : List Value) (h : Value) (w : World) (ho : ∀ v ∈ hs, v.oneCell' = true) (hho : h.oneCell' = true) (hr : w.ownsRow base 2 1 (.slice a hs.length c) hs.length hs) (hv : One w vb h 2) (hne : (Value.slice a hs.length c).ownBlock ≠ some vb) (hi : i ≤ hs.length) (hn : hs.length ≤ 1048576) (hbw : base ≤ w.heap.size) :
    Calls Tryz.prog 165 #[.slice a hs.length c, .int .i64 i, .slice (some ⟨vb, 0, none⟩) 1 1] w fun e w' => ∃ g G, e = .returned (.slice (some ⟨g, 0, none⟩) (hs.length + 1) G) ∧ VRowI base w' g G (hs.take i ++ h :: hs.drop i) ∧ w.grownBy w' (Value.slice a hs.length c).ownBlock ∧ ((Value.slice a hs.length c).ownBlock = some g ∨ g = w.heap.size) := by
  rcases Nat.lt_or_ge i hs.length with hlt | hge
  · obtain ⟨g, rfl⟩ : ∃ g, a = some ⟨g, 0, none⟩ := by
      obtain ⟨_, h2⟩ := hr
      rcases h2 with ⟨e, e2⟩ | ⟨g', cp, cur, e, _⟩
      · omega
      · injection e with e1; exact ⟨g', e1⟩
    have hrow : VRowI base w g c hs := hr
    have hvg : vb ≠ g := fun e => hne (by simp [Value.ownBlock, e])
    rcases Nat.lt_or_ge c (hs.length + 1) with hc | hc
    · refine (iInsGrowI base g c i vb hs h w ho hho hrow hv hlt hc hn hbw).mono ?_
      rintro e w' ⟨G, rfl, h1, h2⟩
      exact ⟨w.heap.size, G, rfl, h1, ⟨h2.os, h2.tape, h2.output, h2.size, fun k hk _ => h2.block k hk⟩, Or.inr rfl⟩
    · refine (iInsShiftI base g c i vb hs h w ho hho hrow hv hvg hlt hc hn).mono ?_
      rintro e w' ⟨rfl, h1, h2⟩
      exact ⟨g, c, rfl, h1, h2, Or.inl rfl⟩
  · have hin : i = hs.length := by omega
    subst hin
    refine (iInsEndI base c vb a hs h w hho hr hv hn hbw).mono ?_
    rintro e w' ⟨g, G, rfl, h1, h2, h3⟩
    refine ⟨g, G, rfl, ?_, h2, h3⟩
    rw [List.take_length, List.drop_length]
    exact h1

end Go.Proofs.YtfbhohpbhjlihaaGreat
namespace Go.Proofs.YtfbhohpbhjlihaaGreat
open Go Go.RowKit

/-- How many at the front are less. -/
def plcI (x : Int) : List Int → Nat
  | [] => 0
  | y :: l => if y < x then plcI x l + 1 else 0
theorem plcI_le (x : Int) (l : List Int) : plcI x l ≤ l.length := by
  induction l with
  | nil => simp [plcI]
  | cons y l ih => simp only [plcI]; split <;> simp <;> omega
theorem plcI_low (x : Int) (l : List Int) (i : Nat) (hi : i < plcI x l) : nth l i < x := by
  induction l generalizing i with
  | nil => simp [plcI] at hi
  | cons y l ih =>
    simp only [plcI] at hi
    by_cases hm : y < x
    · rw [if_pos hm] at hi
      match i with
      | 0 => simpa [nth] using hm
      | i + 1 => simpa [nth] using ih i (by omega)
    · simp [hm] at hi
theorem plcI_high {l : List Int} (h : l.Pairwise (fun a b => a < b)) (x : Int) (i : Nat) (hi : plcI x l ≤ i) (hl : i < l.length) : x ≤ nth l i := by
  induction l generalizing i with
  | nil => simp at hl
  | cons y l ih =>
    obtain ⟨h1, h2⟩ := List.pairwise_cons.1 h
    simp only [plcI] at hi
    by_cases hm : y < x
    · rw [if_pos hm] at hi
      match i with
      | 0 => omega
      | i + 1 => simpa [nth] using ih h2 i (by omega) (by simpa using hl)
    · match i with
      | 0 => simpa [nth] using hm
      | i + 1 =>
        have hlt : i < l.length := by simpa using hl
        have := h1 l[i] (List.getElem_mem hlt)
        have e : nth (y :: l) (i + 1) = l[i] := by simp [nth, List.getD, hlt]
        rw [e]; omega
/-- Put in there, the list still rises. -/
theorem insI_plc {l : List Int} (x : Int) (hx : x ∉ l) : insI l x = l.take (plcI x l) ++ x :: l.drop (plcI x l) := by
  induction l with
  | nil => rfl
  | cons y l ih =>
    have hy : y ≠ x := fun e => hx (by simp [e])
    have ih' := ih (fun h => hx (List.mem_cons_of_mem _ h))
    simp only [insI, plcI]
    by_cases hm : y < x
    · simp [hm, ih']
    · simp [hm, hy]

set_option maxHeartbeats 400000 in
theorem pNaNs (x : Int) (w : World) : Calls Tryz.prog 217 #[.int .i64 x] w fun e w' => e = .returned (.bool false) ∧ w' = w := by
  have hx : (x != x) = false := by simp
  go_enter Tryz.func217, Tryz.ntmps217
  go_wp2
  go_ret
  exact ⟨rfl, rfl⟩
set_option maxHeartbeats 400000 in
theorem pNaNc (x : Int) (w : World) : Calls Tryz.prog 241 #[.int .i64 x] w fun e w' => e = .returned (.bool false) ∧ w' = w := by
  have hx : (x != x) = false := by simp
  go_enter Tryz.func241, Tryz.ntmps241
  go_wp2
  go_ret
  exact ⟨rfl, rfl⟩
set_option maxHeartbeats 400000 in
theorem pLess (x y : Int) (w : World) : Calls Tryz.prog 216 #[.int .i64 x, .int .i64 y] w fun e w' => e = .returned (.bool (decide (x < y))) ∧ w' = w := by
  go_enter Tryz.func216, Tryz.ntmps216
  go_wp2_with (go_at_call 241; refine (pNaNc _ _).mono ?_; rintro e w' ⟨rfl, rfl⟩)
  go_ret
  exact ⟨rfl, rfl⟩

set_option maxRecDepth 100000 in
set_option maxHeartbeats 2000000 in
theorem iBsI (ao : Option Addr) (cap : Nat) (l : List Int) (x : Int) (w : World) (hv : View w ao l) (hs : l.Pairwise (fun a b => a < b)) (hn : l.length ≤ 1048576) :
    Calls Tryz.prog 164 #[.slice ao l.length cap, .int .i64 x] w fun e w' => (∃ b : Bool, e = .returned (.tuple #[.int .i64 (plcI x l : Nat), .bool b])) ∧ Below w.heap.size w w' := by
  have HLO := hidP (plcI_low x l)
  have HHI := hidP (plcI_high hs x)
  have hpl := plcI_le x l
  have HV := hidP hv
  clear hv hs
  generalize plcI x l = p at *
  go_enter Tryz.func164, Tryz.ntmps164
  go_wp2_with fail
  go_loop [7, 8] (fun i j => ∃ u v : Nat, u ≤ p ∧ p ≤ v ∧ v ≤ l.length ∧ i = .int .i64 u ∧ j = .int .i64 v) (fun i j => (intOf j).toNat - (intOf i).toNat)
  case atStart => exact ⟨0, l.length, Nat.zero_le _, hpl, Nat.le_refl _, rfl, rfl⟩
  case round =>
    obtain ⟨u, v, hup, hpv, hv, rfl, rfl⟩ := hrel
    by_cases hlt : u < v
    · have hu1 : IntKind.u64.wrap ((u : Int) + (v : Int)) = (u : Int) + (v : Int) := by rw [IntKind.wrap_u64]; omega
      obtain ⟨m, hm⟩ : ∃ m : Nat, m = (u + v) / 2 := ⟨_, rfl⟩
      have hmi : ((u : Int) + (v : Int)) / 2 = (m : Int) := by omega
      have hm1 : u ≤ m ∧ m < v := by omega
      obtain ⟨b, off, rfl, hb, hsg⟩ : ∃ b off, ao = some ⟨b, off, none⟩ ∧ b < w.heap.size ∧ Seg w b off l := by
        rcases HV.out with h | h
        · rw [h] at hv; simp at hv; omega
        · exact h
      have hc := hsg m (by omega)
      have hc2 : w.cell? ⟨b, off + (u + v) / 2, none⟩ = some (.int .i64 (nth l m)) := by rw [← hm]; exact hc
      have hm0 : (0 : Int) ≤ (m : Int) := Int.natCast_nonneg _
      have hml : (m : Int) < (l.length : Int) := by omega
      have HMI := hidP hmi
      have HM1 := hidP hm1
      have HLE := hidP (pLess (nth l m) x w)
      have HR : Hid ((nth l m < x → m < p) ∧ (¬ nth l m < x → p ≤ m)) := ⟨fun h => by
        rcases Nat.lt_or_ge m p with e | e
        · exact e
        · have := HHI.out m e (by omega); omega, fun h => by
        rcases Nat.lt_or_ge m p with e | e
        · exact absurd (HLO.out m e) h
        · exact e⟩
      clear hmi hm hm1 hsg
      generalize nth l m = y at *
      by_cases hyx : y < x
      · rw [decide_eq_true hyx] at HLE
        have hpm := HR.out.1 hyx
        clear hyx
        go_wp2_with fail
        refine HLE.out.mono ?_
        rintro e w2 ⟨rfl, hw⟩
        subst w2
        go_wp2_with fail
        go_round
        case rel => exact ⟨m + 1, v, by omega, hpv, hv, by have := HMI.out; rw [this]; go_num, rfl⟩
        case measure => have := HM1.out; simp [intOf]; omega
      · rw [decide_eq_false hyx] at HLE
        have hpm := HR.out.2 hyx
        clear hyx
        go_wp2_with fail
        refine HLE.out.mono ?_
        rintro e w2 ⟨rfl, hw⟩
        subst w2
        go_wp2_with fail
        go_round
        case rel => exact ⟨u, m, hup, hpm, by have := HM1.out; omega, rfl, by rw [HMI.out]⟩
        case measure => have := HM1.out; simp [intOf]; omega
    · obtain rfl : u = p := by omega
      by_cases hp : u < l.length
      · obtain ⟨b, off, rfl, hb, hsg⟩ : ∃ b off, ao = some ⟨b, off, none⟩ ∧ b < w.heap.size ∧ Seg w b off l := by
          rcases HV.out with h | h
          · rw [h] at hp; simp at hp
          · exact h
        have hc := hsg u hp
        have hul : (u : Int) < (l.length : Int) := by omega
        have hu0 : (0 : Int) ≤ (u : Int) := Int.natCast_nonneg _
        by_cases hyx : nth l u = x
        · have hyb : (nth l u == x) = true := by simp [hyx]
          clear hyx
          generalize nth l u = y at *
          go_wp2_with (go_at_call 217; refine (pNaNs _ _).mono ?_; rintro e w' ⟨rfl, rfl⟩)
          go_ret2
          exact ⟨by first | exact ⟨_, rfl⟩ | exact Or.inl rfl | exact Or.inr rfl | simp, Below.refl _ _⟩
        · have hyb : (nth l u == x) = false := by simp [hyx]
          clear hyx
          generalize nth l u = y at *
          go_wp2_with (go_at_call 217; refine (pNaNs _ _).mono ?_; rintro e w' ⟨rfl, rfl⟩)
          go_ret2
          exact ⟨by first | exact ⟨_, rfl⟩ | exact Or.inl rfl | exact Or.inr rfl | simp, Below.refl _ _⟩
      · have hul : ¬ ((u : Int) < (l.length : Int)) := by omega
        go_wp2_with fail
        go_ret2
        exact ⟨by first | exact ⟨_, rfl⟩ | exact Or.inl rfl | exact Or.inr rfl | simp, Below.refl _ _⟩
end Go.Proofs.YtfbhohpbhjlihaaGreat
namespace Go.Proofs.YtfbhohpbhjlihaaGreat
open Go Go.RowKit

theorem info_elS : (Tryz.prog.info? 193).map (fun i => (i.zero, i.size, i.bytes)) = some (some (Value.nilIface), 1, 16) := by kernel_rfl
/-- A row of values of one cell, of the call's own. -/
def VRowS (base : Nat) (w : World) (g c : Nat) (vs : List Value) : Prop := w.ownsRow base 193 1 (.slice (some ⟨g, 0, none⟩) vs.length c) vs.length vs
theorem VRowS.lt {base : Nat} {w : World} {g c : Nat} {vs : List Value} (h : VRowS base w g c vs) : base ≤ g ∧ g < w.heap.size := World.ownsRow.lt h g rfl
theorem vrow_cellsS {base : Nat} {w : World} {g c : Nat} {vs : List Value} (h : VRowS base w g c vs) : ∃ S : List Value, w.heap[g]? = some (.cells (vs ++ S).toArray 193 (0, 0)) ∧ S.length = c - vs.length ∧ base ≤ g ∧ vs.length ≤ c ∧ c ≤ maxLen := by
  obtain ⟨h1, h2⟩ := h
  rcases h2 with ⟨e, _⟩ | ⟨g', cp, cur, e, hb, hg, hnc, hcm, hsz, htk⟩
  · cases e
  · injection e with e1 e2 e3
    injection e1 with e1
    injection e1 with e1
    subst e1 e3
    rw [Nat.mul_one] at htk hsz
    refine ⟨cur.toList.drop vs.length, ?_, ?_, hb, hnc, hcm⟩
    · have : (vs ++ cur.toList.drop vs.length).toArray = cur := by
        have e := List.take_append_drop vs.length cur.toList
        rw [htk] at e
        rw [e]
      rw [this]; exact hg
    · rw [List.length_drop, Array.length_toList, hsz]
theorem vrow_ofS {base : Nat} {w : World} {g c : Nat} {vs : List Value} {S : List Value} (hg : w.heap[g]? = some (.cells (vs ++ S).toArray 193 (0, 0))) (hS : S.length = c - vs.length) (hb : base ≤ g) (hnc : vs.length ≤ c) (hcm : c ≤ maxLen) : VRowS base w g c vs := by
  refine ⟨by simp, Or.inr ⟨g, c, _, rfl, hb, hg, hnc, hcm, ?_, ?_⟩⟩
  · simp [hS]; omega
  · have e : (vs ++ S).toArray.toList = vs ++ S := rfl
    rw [e, Nat.mul_one, List.take_left' rfl]

set_option maxRecDepth 100000 in
set_option maxHeartbeats 4000000 in
theorem iInsShiftS (base g c i vb : Nat) (hs : List Value) (h : Value) (w : World) (ho : ∀ v ∈ hs, v.oneCell' = true) (hho : h.oneCell' = true) (hr : VRowS base w g c hs) (hv : One w vb h 193) (hne : vb ≠ g) (hi : i < hs.length) (hroom : hs.length + 1 ≤ c) (hn : hs.length ≤ 1048576) :
    Calls Tryz.prog 176 #[.slice (some ⟨g, 0, none⟩) hs.length c, .int .i64 i, .slice (some ⟨vb, 0, none⟩) 1 1] w fun e w' => e = .returned (.slice (some ⟨g, 0, none⟩) (hs.length + 1) c) ∧ VRowS base w' g c (hs.take i ++ h :: hs.drop i) ∧ w.grownBy w' (some g) := by
  obtain ⟨S, hgS, hSl, hbg, hnc, hcm⟩ := vrow_cellsS hr
  have hov : ∀ o lb cb, (callFunc 223 #[.slice (some ⟨vb, 0, none⟩) 1 1, .slice (some ⟨g, o, none⟩) lb cb]).run Tryz.prog w = .ok (.value (.bool false)) w := fun o lb cb => by
    rw [run_callFunc_extern Tryz.func223 (by kernel_rfl) (by kernel_rfl) (by kernel_rfl) (e := Extern.SlicesOverlaps.overlaps #[121, 121] #[4]) (by kernel_rfl),
      Lib.run_overlaps_apart w 121 4 193 Tryz.underlying121 1 (fun _ => by kernel_rfl) ⟨vb, 0, none⟩ ⟨g, o, none⟩ 1 1 lb cb hne 193 193 1 (hs ++ S).length (by unfold One at hv; simp [World.shape?, hv]) (by simp [World.shape?, hgS]) (by rw [List.length_append]; omega) (hv.frozen 0) (hv.frozen 1)]
    rfl
  have hsz2 : (Tryz.prog.info? 193).map (·.size) = some 1 := by kernel_rfl
  have ecur : hs ++ S = hs.take i ++ (hs.drop i ++ S) := by rw [← List.append_assoc, List.take_append_drop]
  have hAl : (hs.take i).length = i := by simp; omega
  have hBl : (hs.drop i).length = hs.length - i := by simp
  obtain ⟨C1, hC1⟩ : ∃ C1, C1 = splice (hs ++ S) (i + 1) (hs.drop i) := ⟨_, rfl⟩
  have hC1l : C1.length = (hs ++ S).length := by rw [hC1]; exact length_splice _ _ _ (by rw [hBl, List.length_append, hSl]; omega)
  obtain ⟨C2, hC2⟩ : ∃ C2, C2 = splice C1 i [h] := ⟨_, rfl⟩
  have eC2 : C2 = (hs.take i ++ h :: hs.drop i) ++ S.drop 1 := by
    have h1 := ins_cells1 (A := hs.take i) (B := hs.drop i) (S := S) (X := [h]) rfl (by omega)
    rw [hAl] at h1
    rw [hC2, hC1, ecur, h1]
    simp
  have hsg : Seg2 w g hs := fun j v hj => by
    have hjl : j < hs.length := by
      rcases Nat.lt_or_ge j hs.length with h1 | h1
      · exact h1
      · rw [List.getElem?_eq_none h1] at hj; cases hj
    simp only [World.cell?, hgS]
    simp [List.getElem?_append_left hjl, hj]
  have hcp1 : ∀ ty dc sc, (Builtin.copy_ #[121, 121] ty #[.slice (some ⟨g, i + 1, none⟩) (hs.length - i) dc, .slice (some ⟨g, i, none⟩) (hs.length + 1 - i) sc]).run Tryz.prog w.drew = .ok (goInt (Nat.min (hs.length + 1 - i) (hs.length - i))) (w.drew.setRow g C1.toArray) := fun ty dc sc => by
    rw [hC1]
    exact run_copy_part w.drew _ _ ty 193 g (i + 1) (hs.length - i) dc ⟨g, i, none⟩ (hs.length + 1 - i) sc 1 (hs ++ S) 193 (hs.drop i) Tryz.underlying121 hsz2 hgS (by rw [hBl, Nat.mul_one]; simp only [Nat.min_def]; split <;> omega) (by rw [hBl, List.length_append, hSl]; omega)
      (fun j v hj => by
        rw [List.getElem?_drop] at hj
        rw [Addr.add_lit]
        exact hsg (i + j) v hj) (fun v hv => ho v (List.mem_of_mem_drop hv))
  obtain ⟨W1, hW1⟩ : ∃ W1, W1 = w.drew.setRow g C1.toArray := ⟨_, rfl⟩
  have hg1 : W1.heap[g]? = some (.cells C1.toArray 193 (0, 0)) := by rw [hW1]; exact setRow_heap w.drew g _ _ 193 _ hgS
  have hv1 : One W1 vb h 193 := by rw [hW1]; exact (setRow_other w.drew g vb C1.toArray hne).trans hv
  have hmin1 : Nat.min 1 (hs.length + 1 - i) = 1 := by simp only [Nat.min_def]; split <;> omega
  have hcp2 : ∀ ty dc, (Builtin.copy_ #[121, 121] ty #[.slice (some ⟨g, i, none⟩) (hs.length + 1 - i) dc, .slice (some ⟨vb, 0, none⟩) 1 1]).run Tryz.prog W1 = .ok (goInt (Nat.min 1 (hs.length + 1 - i))) (W1.setRow g C2.toArray) := fun ty dc => by
    rw [hC2]
    exact run_copy_part W1 _ _ ty 193 g i (hs.length + 1 - i) dc ⟨vb, 0, none⟩ 1 1 1 C1 193 [h] Tryz.underlying121 hsz2 hg1 (by rw [hmin1]; rfl) (by rw [hC1l, List.length_append]; simp; omega)
      (fun j v hj => by
        rw [Addr.add_lit]
        match j, hj with
        | 0, hj => simp at hj; rw [← hj]; exact hv1.c0
        | j + 1, hj => simp at hj) (by intro v hv; simp at hv; rw [hv]; exact hho)
  rw [← hW1] at hcp1
  have HEND : Hid (VRowS base (W1.setRow g C2.toArray) g c (hs.take i ++ h :: hs.drop i) ∧ w.grownBy (W1.setRow g C2.toArray) (some g)) := by
    refine ⟨vrow_ofS (S := S.drop 1) ?_ ?_ hbg ?_ hcm, ?_⟩
    · rw [← eC2]; exact setRow_heap W1 g _ _ 193 _ hg1
    · simp; omega
    · simp; omega
    · refine ⟨by rw [hW1]; rfl, by rw [hW1]; rfl, by rw [hW1]; rfl, by rw [hW1]; simp [World.setRow], fun k _ hk => ?_⟩
      have hkg : k ≠ g := fun e => hk (by rw [e])
      rw [setRow_other W1 g k C2.toArray hkg, hW1]
      exact setRow_other w.drew g k C1.toArray hkg
  clear hsg hv1 hg1 eC2 hC1l hC1 hC2 ecur hAl hBl hW1 ho hho
  have hz2 : ¬ ((i : Int) = (hs.length : Int)) := by omega
  have hw1 : IntKind.i64.wrap ((i : Int) + 1) = (i : Int) + 1 := by rw [IntKind.wrap_i64]; omega
  have hw2 : IntKind.i64.wrap ((hs.length : Int) + 1) = (hs.length : Int) + 1 := by rw [IntKind.wrap_i64]; omega
  have hcc : ¬ ((hs.length : Int) + 1 > (c : Int)) := by omega
  have hin : i ≤ hs.length := by omega
  have hin2 : (i : Int) ≤ (hs.length : Int) := by omega
  have hb1 : (0 : Int) ≤ (i : Int) + 1 := by omega
  have htn : ((i : Int) + 1).toNat = i + 1 := by omega
  have hb2 : ¬ (c = i + 1) := by omega
  have hb3 : (i : Int) ≤ (hs.length : Int) + 1 := by omega
  have hb4 : ¬ (c = i) := by omega
  have mixed : Tryz.prog.follows Departure.mixedOrders = true := by kernel_rfl
  have hb5 : (i : Int) + 1 ≤ (hs.length : Int) + 1 := by omega
  go_enter Tryz.func176, Tryz.ntmps176
  go_wp2_with (simp only [hov])
  go_region_law_o (refine step_copy_runI rfl _ _ 121 121 rfl _ _ (by simp [Act.eval, Act.put]) (by simp [Act.eval, Act.put]) (hcp1 _ _ _) ?_)
  go_wp2_with fail
  go_ret
  exact ⟨rfl, HEND.out.1, HEND.out.2⟩

set_option maxRecDepth 100000 in
set_option maxHeartbeats 4000000 in
theorem iInsGrowS (base g c i vb : Nat) (hs : List Value) (h : Value) (w : World) (ho : ∀ v ∈ hs, v.oneCell' = true) (hho : h.oneCell' = true) (hr : VRowS base w g c hs) (hv : One w vb h 193) (hi : i < hs.length) (hroom : c < hs.length + 1) (hn : hs.length ≤ 1048576) (hbw : base ≤ w.heap.size) :
    Calls Tryz.prog 176 #[.slice (some ⟨g, 0, none⟩) hs.length c, .int .i64 i, .slice (some ⟨vb, 0, none⟩) 1 1] w fun e w' => ∃ G, e = .returned (.slice (some ⟨w.heap.size, 0, none⟩) (hs.length + 1) G) ∧ VRowS base w' w.heap.size G (hs.take i ++ h :: hs.drop i) ∧ Below w.heap.size w w' := by
  obtain ⟨S, hgS, hSl, hbg, hnc, hcm⟩ := vrow_cellsS hr
  obtain ⟨j0, hj0, hy0, hy1, hy2⟩ := info_parts info_elS
  have hsz2 : (Tryz.prog.info? 193).map (·.size) = some 1 := by kernel_rfl
  have hgw : g < w.heap.size := hr.lt.2
  have hvw : vb < w.heap.size := hv.lt
  have hsg : Seg2 w g hs := fun j v hj => by
    have hjl : j < hs.length := by
      rcases Nat.lt_or_ge j hs.length with h1 | h1
      · exact h1
      · rw [List.getElem?_eq_none h1] at hj; cases hj
    simp only [World.cell?, hgS]
    simp [List.getElem?_append_left hjl, hj]
  have hAl : (hs.take i).length = i := by simp; omega
  have hBl : (hs.drop i).length = hs.length - i := by simp
  have hld : (loadCells ⟨g, 0, none⟩ i).run Tryz.prog w.drew = .ok (hs.take i).toArray w.drew := by
    have h1 := run_loadCells_list (P := Tryz.prog) w.drew ⟨g, 0, none⟩ (hs.take i) (fun j v hj => by
      rw [Addr.add_lit, Nat.zero_add]
      refine hsg j v ?_
      have hjl : j < (hs.take i).length := by
        rcases Nat.lt_or_ge j (hs.take i).length with h1 | h1
        · exact h1
        · rw [List.getElem?_eq_none h1] at hj; cases hj
      have e : hs = hs.take i ++ hs.drop i := by rw [List.take_append_drop]
      rw [e, List.getElem?_append_left hjl]; exact hj)
    rwa [hAl] at h1
  have hold : (Builtin.firstCells j0.size i (.slice (some ⟨g, 0, none⟩) i c)).run Tryz.prog w.drew = .ok (hs.take i).toArray w.drew := by
    rw [hy1]
    simp [Builtin.firstCells, hld]
  have hrz := fun ty => Lib.run_append_grow_zeros (P := Tryz.prog) w 121 3 ty 193 j0 _ .i64 .i64 Tryz.underlying121 Tryz.underlying3 hj0 hy0 (some ⟨g, 0, none⟩) i c (hs.take i) hold (hs.length + 1 - i) (by omega) (by omega) (by omega) (by omega) (by rw [hy2]; omega) (growslice_fits (by omega) (by rw [hy2]; omega))
  rw [show i + (hs.length + 1 - i) = hs.length + 1 by omega, show ((hs.length + 1 - i : Nat) : Int) = (hs.length : Int) + 1 - (i : Int) by omega] at hrz
  have hG1 := grownCap_ge w (hs.length + 1) c 193
  have hG2 := grownCap_le_maxLen w (hs.length + 1) c 193 (by unfold maxLen; omega)
  obtain ⟨G, hG⟩ : ∃ G, G = grownCap w (hs.length + 1) c 193 := ⟨_, rfl⟩
  rw [← hG] at hrz hG1 hG2
  obtain ⟨Z, hZ⟩ : ∃ Z, Z = (Builtin.zeroCells (Value.nilIface).cells (hs.length + 1 - i)).toList ++ (Builtin.zeroCells (Value.nilIface).cells (G - (hs.length + 1))).toList := ⟨_, rfl⟩
  have hZl : Z.length = G - i := by
    have e : ∀ m, (Builtin.zeroCells (Value.nilIface).cells m).toList.length = m := fun m => by simp [Builtin.zeroCells, Value.cells]
    rw [hZ, List.length_append, e, e]
    omega
  have ecells : (hs.take i).toArray ++ Builtin.zeroCells (Value.nilIface).cells (hs.length + 1 - i) ++ Builtin.zeroCells (Value.nilIface).cells (G - (hs.length + 1)) = (hs.take i ++ Z).toArray := by
    apply Array.ext'
    rw [hZ]
    simp
  rw [ecells] at hrz
  obtain ⟨W1, hW1⟩ : ∃ W1, W1 = w.drew.alloc (.cells (hs.take i ++ Z).toArray 193) := ⟨_, rfl⟩
  rw [← hW1] at hrz
  have hBW : Below w.heap.size w W1 := by rw [hW1]; exact ((Below.refl w.heap.size w).drew).alloc (Nat.le_refl _) _
  have hg1 : W1.heap[w.heap.size]? = some (.cells (hs.take i ++ Z).toArray 193 (0, 0)) := by rw [hW1]; exact heap_alloc_new w.drew _
  have hv1 : One W1 vb h 193 := (hBW.block vb hvw).trans hv
  have hsg1 : Seg2 W1 g hs := fun j v hj => (hBW.cell (p := ⟨g, j, none⟩) hgw).trans (hsg j v hj)
  obtain ⟨C1, hC1⟩ : ∃ C1, C1 = splice (hs.take i ++ Z) i [h] := ⟨_, rfl⟩
  have hC1l : C1.length = (hs.take i ++ Z).length := by rw [hC1]; exact length_splice _ _ _ (by rw [List.length_append, hAl, hZl]; simp; omega)
  obtain ⟨C2, hC2⟩ : ∃ C2, C2 = splice C1 (i + 1) (hs.drop i) := ⟨_, rfl⟩
  have eC2 : C2 = (hs.take i ++ h :: hs.drop i) ++ Z.drop (1 + (hs.drop i).length) := by
    have h1 := grow_cells1 (A := hs.take i) (B := hs.drop i) (Z := Z) (X := [h]) rfl
    rw [hAl] at h1
    rw [hC2, hC1, h1]
    simp
  have hmin1 : Nat.min 1 (hs.length + 1 - i) = 1 := by simp only [Nat.min_def]; split <;> omega
  have hcp1 : ∀ ty dc, (Builtin.copy_ #[121, 121] ty #[.slice (some ⟨w.heap.size, i, none⟩) (hs.length + 1 - i) dc, .slice (some ⟨vb, 0, none⟩) 1 1]).run Tryz.prog W1 = .ok (goInt (Nat.min 1 (hs.length + 1 - i))) (W1.setRow w.heap.size C1.toArray) := fun ty dc => by
    rw [hC1]
    exact run_copy_part W1 _ _ ty 193 w.heap.size i (hs.length + 1 - i) dc ⟨vb, 0, none⟩ 1 1 1 (hs.take i ++ Z) 193 [h] Tryz.underlying121 hsz2 hg1 (by rw [hmin1]; rfl) (by rw [List.length_append, hAl, hZl]; simp; omega)
      (fun j v hj => by
        rw [Addr.add_lit]
        match j, hj with
        | 0, hj => simp at hj; rw [← hj]; exact hv1.c0
        | j + 1, hj => simp at hj) (by intro v hv; simp at hv; rw [hv]; exact hho)
  obtain ⟨W2, hW2⟩ : ∃ W2, W2 = W1.setRow w.heap.size C1.toArray := ⟨_, rfl⟩
  have hg2 : W2.heap[w.heap.size]? = some (.cells C1.toArray 193 (0, 0)) := by rw [hW2]; exact setRow_heap W1 w.heap.size _ _ 193 _ hg1
  have hB2 : Below w.heap.size w W2 := by rw [hW2]; exact below_setRow hBW (Nat.le_refl _) _
  have hcp2 : ∀ ty dc sc, (Builtin.copy_ #[121, 121] ty #[.slice (some ⟨w.heap.size, i + 1, none⟩) (hs.length - i) dc, .slice (some ⟨g, i, none⟩) (hs.length - i) sc]).run Tryz.prog W2.drew = .ok (goInt (Nat.min (hs.length - i) (hs.length - i))) (W2.drew.setRow w.heap.size C2.toArray) := fun ty dc sc => by
    rw [hC2]
    exact run_copy_part W2.drew _ _ ty 193 w.heap.size (i + 1) (hs.length - i) dc ⟨g, i, none⟩ (hs.length - i) sc 1 C1 193 (hs.drop i) Tryz.underlying121 hsz2 hg2 (by rw [hBl, Nat.mul_one]; simp only [Nat.min_def]; split <;> omega) (by rw [hC1l, List.length_append, hAl, hZl, hBl]; omega)
      (fun j v hj => by
        rw [List.getElem?_drop] at hj
        rw [Addr.add_lit]
        exact (hB2.cell (p := ⟨g, i + j, none⟩) hgw).trans (hsg (i + j) v hj)) (fun v hv => ho v (List.mem_of_mem_drop hv))
  rw [← hW2] at hcp1
  have HEND : Hid (VRowS base (W2.drew.setRow w.heap.size C2.toArray) w.heap.size G (hs.take i ++ h :: hs.drop i) ∧ Below w.heap.size w (W2.drew.setRow w.heap.size C2.toArray)) := by
    refine ⟨vrow_ofS (S := Z.drop (1 + (hs.drop i).length)) ?_ ?_ hbw ?_ hG2, below_setRow hB2.drew (Nat.le_refl _) _⟩
    · rw [← eC2]; exact setRow_heap W2.drew w.heap.size _ _ 193 _ hg2
    · rw [List.length_drop, hBl, hZl]; simp; omega
    · simp; omega
  have hcc : (hs.length : Int) + 1 > (c : Int) := by omega
  have hz2 : ¬ ((i : Int) = (hs.length : Int)) := by omega
  have hw1 : IntKind.i64.wrap ((i : Int) + 1) = (i : Int) + 1 := by rw [IntKind.wrap_i64]; omega
  have hw2 : IntKind.i64.wrap ((hs.length : Int) + 1) = (hs.length : Int) + 1 := by rw [IntKind.wrap_i64]; omega
  have hw3 : IntKind.i64.wrap ((hs.length : Int) + 1 - (i : Int)) = (hs.length : Int) + 1 - (i : Int) := by rw [IntKind.wrap_i64]; omega
  have hin : i ≤ hs.length := by omega
  have hin2 : (i : Int) ≤ (hs.length : Int) := by omega
  have hic : (i : Int) ≤ (c : Int) := by omega
  have hb1 : (0 : Int) ≤ (i : Int) + 1 := by omega
  have htn : ((i : Int) + 1).toNat = i + 1 := by omega
  have hb2 : ¬ (G = i + 1) := by omega
  have hb3 : (i : Int) ≤ (hs.length : Int) + 1 := by omega
  have hb4 : ¬ (G = i) := by omega
  have hb6 : ¬ (c = i) := by omega
  have hb5 : (i : Int) + 1 ≤ (hs.length : Int) + 1 := by omega
  have mixed : Tryz.prog.follows Departure.mixedOrders = true := by kernel_rfl
  clear hsg hsg1 hv1 hg1 hg2 eC2 hC1l hC1 hC2 hAl hBl hW1 hW2 hB2 hBW hold hld hG hZ hZl ecells hr hgS hSl ho hho
  go_enter Tryz.func176, Tryz.ntmps176
  go_wp2_with (at_builtin; refine Lib.wpList_append_run _ rfl _ _ _ _ rfl _ _ rfl rfl _ _ (hrz _) ?_)
  go_region_law_o (refine step_copy_runI rfl _ _ 121 121 rfl _ _ (by simp [Act.eval, Act.put]) (by simp [Act.eval, Act.put]) (hcp2 _ _ _) ?_)
  go_wp2_with fail
  go_ret
  exact ⟨G, rfl, HEND.out.1, HEND.out.2⟩
theorem VRowS.of {base : Nat} {w : World} {g c n : Nat} {vs xs : List Value} (h : w.ownsRow base 193 1 (.slice (some ⟨g, 0, none⟩) n c) n xs) (hn : n = vs.length) (hx : xs = vs) : VRowS base w g c vs := by
  subst hn hx; exact h

set_option maxRecDepth 100000 in
set_option maxHeartbeats 1000000 in
theorem iInsEndS (base c vb : Nat) (a : Option Addr) (hs : List Value) (h : Value) (w : World) (hho : h.oneCell' = true) (hr : w.ownsRow base 193 1 (.slice a hs.length c) hs.length hs) (hv : One w vb h 193) (hn : hs.length ≤ 1048576) (hbw : base ≤ w.heap.size) :
    Calls Tryz.prog 176 #[.slice a hs.length c, .int .i64 hs.length, .slice (some ⟨vb, 0, none⟩) 1 1] w fun e w' => ∃ g G, e = .returned (.slice (some ⟨g, 0, none⟩) (hs.length + 1) G) ∧ VRowS base w' g G (hs ++ [h]) ∧ w.grownBy w' (Value.slice a hs.length c).ownBlock ∧ ((Value.slice a hs.length c).ownBlock = some g ∨ g = w.heap.size) := by
  obtain ⟨j0, hj0, hy0, hy1, hy2⟩ := info_parts info_elS
  have HR := hidP hr
  have HV := hidP hv
  have hin : (hs.length : Int) ≤ (hs.length : Int) := Int.le_refl _
  obtain ⟨hx1, h2⟩ := hr
  clear hx1
  rcases h2 with ⟨e, e2⟩ | ⟨g', cp, cur, e, hb, hg, hnc, hcm, hsz, htk⟩
  · injection e with e1 e3 e4
    subst e1 e4
    have hs0 : hs = [] := List.length_eq_zero_iff.1 e3
    subst hs0
    simp only [List.length_nil] at *
    go_enter Tryz.func176, Tryz.ntmps176
    go_wp2_with (at_builtin; refine wpList_append_lies _ rfl (.tmp 23) (.tmp 24) 121 rfl base 193 j0 _ 1 16 Tryz.underlying121 hj0 hy0 hy1 hy2 rfl (by omega) (.slice none 0 0) 0 [] rfl HR.out ⟨vb, 0, none⟩ 1 1 [h] rfl rfl (World.news_of_block (cs := #[h]) (t := 193) (fr := (0, 0)) HV.out) (by intro v hv; simp at hv; rw [hv]; exact hho) (by omega) (by unfold maxLen; omega) (by omega) hbw w.heap.size rfl ?_; intro gg cc w8 hown hgrow hat8 hlt8)
    go_ret
    exact ⟨gg, cc, rfl, VRowS.of hown rfl rfl, hgrow, hat8⟩
  · injection e with e1 e3 e4
    subst e1 e4
    clear htk hsz hg e3
    by_cases hcn : c = hs.length
    · rw [hcn] at HR ⊢
      go_enter Tryz.func176, Tryz.ntmps176
      go_wp2_with (at_builtin; refine wpList_append_lies _ rfl (.tmp 23) (.tmp 24) 121 rfl base 193 j0 _ 1 16 Tryz.underlying121 hj0 hy0 hy1 hy2 rfl (by omega) (.slice (some ⟨g', 0, none⟩) hs.length hs.length) hs.length hs rfl HR.out ⟨vb, 0, none⟩ 1 1 [h] rfl rfl (World.news_of_block (cs := #[h]) (t := 193) (fr := (0, 0)) HV.out) (by intro v hv; simp at hv; rw [hv]; exact hho) (by omega) (by unfold maxLen; omega) (by omega) hbw w.heap.size rfl ?_; intro gg cc w8 hown hgrow hat8 hlt8)
      go_ret
      exact ⟨gg, cc, rfl, VRowS.of hown (by simp) rfl, hgrow, hat8⟩
    · have hb4 : ¬ (c = hs.length) := hcn
      go_enter Tryz.func176, Tryz.ntmps176
      go_wp2_with (at_builtin; refine wpList_append_lies _ rfl (.tmp 23) (.tmp 24) 121 rfl base 193 j0 _ 1 16 Tryz.underlying121 hj0 hy0 hy1 hy2 rfl (by omega) (.slice (some ⟨g', 0, none⟩) hs.length c) hs.length hs rfl HR.out ⟨vb, 0, none⟩ 1 1 [h] rfl rfl (World.news_of_block (cs := #[h]) (t := 193) (fr := (0, 0)) HV.out) (by intro v hv; simp at hv; rw [hv]; exact hho) (by omega) (by unfold maxLen; omega) (by omega) hbw w.heap.size rfl ?_; intro gg cc w8 hown hgrow hat8 hlt8)
      go_ret
      exact ⟨gg, cc, rfl, VRowS.of hown (by simp) rfl, hgrow, hat8⟩

theorem iInsertS (base c i vb : Nat) (a : Option Addr) (hs : List Value) (h : Value) (w : World) (ho : ∀ v ∈ hs, v.oneCell' = true) (hho : h.oneCell' = true) (hr : w.ownsRow base 193 1 (.slice a hs.length c) hs.length hs) (hv : One w vb h 193) (hne : (Value.slice a hs.length c).ownBlock ≠ some vb) (hi : i ≤ hs.length) (hn : hs.length ≤ 1048576) (hbw : base ≤ w.heap.size) :
    Calls Tryz.prog 176 #[.slice a hs.length c, .int .i64 i, .slice (some ⟨vb, 0, none⟩) 1 1] w fun e w' => ∃ g G, e = .returned (.slice (some ⟨g, 0, none⟩) (hs.length + 1) G) ∧ VRowS base w' g G (hs.take i ++ h :: hs.drop i) ∧ w.grownBy w' (Value.slice a hs.length c).ownBlock ∧ ((Value.slice a hs.length c).ownBlock = some g ∨ g = w.heap.size) := by
  rcases Nat.lt_or_ge i hs.length with hlt | hge
  · obtain ⟨g, rfl⟩ : ∃ g, a = some ⟨g, 0, none⟩ := by
      obtain ⟨_, h2⟩ := hr
      rcases h2 with ⟨e, e2⟩ | ⟨g', cp, cur, e, _⟩
      · omega
      · injection e with e1; exact ⟨g', e1⟩
    have hrow : VRowS base w g c hs := hr
    have hvg : vb ≠ g := fun e => hne (by simp [Value.ownBlock, e])
    rcases Nat.lt_or_ge c (hs.length + 1) with hc | hc
    · refine (iInsGrowS base g c i vb hs h w ho hho hrow hv hlt hc hn hbw).mono ?_
      rintro e w' ⟨G, rfl, h1, h2⟩
      exact ⟨w.heap.size, G, rfl, h1, ⟨h2.os, h2.tape, h2.output, h2.size, fun k hk _ => h2.block k hk⟩, Or.inr rfl⟩
    · refine (iInsShiftS base g c i vb hs h w ho hho hrow hv hvg hlt hc hn).mono ?_
      rintro e w' ⟨rfl, h1, h2⟩
      exact ⟨g, c, rfl, h1, h2, Or.inl rfl⟩
  · have hin : i = hs.length := by omega
    subst hin
    refine (iInsEndS base c vb a hs h w hho hr hv hn hbw).mono ?_
    rintro e w' ⟨g, G, rfl, h1, h2, h3⟩
    refine ⟨g, G, rfl, ?_, h2, h3⟩
    rw [List.take_length, List.drop_length]
    exact h1

end Go.Proofs.YtfbhohpbhjlihaaGreat
namespace Go.Proofs.YtfbhohpbhjlihaaGreat
open Go Go.RowKit

theorem m_idS (x : Int) (a : Option Addr) (n c : Nat) (w : World) : Sem.run Tryz.prog (method 396 226 (.agg #[.int .i64 x, .slice a n c]) "loop.example/g00273/impl.id") w = .ok (300, .agg #[.int .i64 x, .slice a n c]) w := by kernel_rfl
theorem m_linksS (x : Int) (a : Option Addr) (n c : Nat) (w : World) : Sem.run Tryz.prog (method 396 226 (.agg #[.int .i64 x, .slice a n c]) "loop.example/g00273/impl.links") w = .ok (301, .agg #[.int .i64 x, .slice a n c]) w := by kernel_rfl
theorem m_idT (x d : Int) (a : Option Addr) (n c : Nat) (w : World) : Sem.run Tryz.prog (method 396 229 (.agg #[.int .i64 x, .slice a n c, .int .i64 d]) "loop.example/g00273/impl.id") w = .ok (300, .agg #[.int .i64 x, .slice a n c]) w := by kernel_rfl
theorem m_linksT (x d : Int) (a : Option Addr) (n c : Nat) (w : World) : Sem.run Tryz.prog (method 396 229 (.agg #[.int .i64 x, .slice a n c, .int .i64 d]) "loop.example/g00273/impl.links") w = .ok (301, .agg #[.int .i64 x, .slice a n c]) w := by kernel_rfl
theorem m_farT (x d : Int) (a : Option Addr) (n c : Nat) (w : World) : Sem.run Tryz.prog (method 396 229 (.agg #[.int .i64 x, .slice a n c, .int .i64 d]) "loop.example/g00273/impl.far") w = .ok (302, .agg #[.int .i64 x, .slice a n c, .int .i64 d]) w := by kernel_rfl
theorem as_T (v : Value) (w : World) : Sem.run Tryz.prog (Instr.typeAssert (.iface 229 v) 193 231 true) w = .ok (.tuple #[.iface 229 v, .bool true]) w := by kernel_rfl
theorem least_some {l : List String} (h : l ≠ []) : ∃ m, Instr.least l = some m := by
  cases l with
  | nil => exact absurd rfl h
  | cons a l => exact ⟨_, rfl⟩
theorem part_some (p : String → Bool) (f : String → String) {L : List String} (hm : L ≠ []) : ∃ m, (Instr.least (L.filter (not ∘ p)) <|> Instr.least ((L.filter p).map f)) = some m := by
  by_cases h2 : L.filter (not ∘ p) = []
  · have h3 : L.filter p ≠ [] := by
      intro e
      apply hm
      rw [List.filter_eq_nil_iff] at e h2
      cases L with
      | nil => rfl
      | cons a L =>
        have e1 := e a (by simp)
        have e2 := h2 a (by simp)
        simp only [Function.comp_apply] at e2
        rcases hp : p a with _ | _
        · rw [hp] at e2; simp at e2
        · exact absurd hp e1
    obtain ⟨m, hmm⟩ := least_some (l := (L.filter p).map f) (by simpa using h3)
    exact ⟨m, by rw [h2, hmm]; rfl⟩
  · obtain ⟨m, hmm⟩ := least_some h2
    exact ⟨m, by rw [hmm]; rfl⟩
theorem missing_some {want : Array (String × TypeId)} {got : Array Method} (h : (want.toList.filter fun (name, sig) => !got.any fun m => m.name == name && m.sig == sig) ≠ []) : ∃ m, Instr.missingMethod want got = some m := by
  unfold Instr.missingMethod
  simp only [List.partition_eq_filter_filter]
  exact part_some _ _ (by simpa using h)
def wantOf (P : Program) (t : TypeId) : Option (Array (String × TypeId)) := (P.underlying t).bind fun d => match d with | .interface w => some w | _ => none
def lackRow (P : Program) (t u : TypeId) : Option Bool := (P.info? t).bind fun i => (wantOf P u).map fun want => (want.toList.filter fun (name, sig) => !i.methods.any fun m => m.name == name && m.sig == sig).isEmpty
theorem as_S (v : Value) (w : World) : Sem.run Tryz.prog (Instr.typeAssert (.iface 226 v) 193 231 true) w = .ok (.tuple #[.nilIface, .bool false]) w := by
  obtain ⟨want, hu⟩ : ∃ want, Tryz.prog.underlying 231 = some (.interface want) := by
    cases h : wantOf Tryz.prog 231 with
    | none => exact absurd h (by have : (wantOf Tryz.prog 231).isSome = true := by kernel_rfl
                                 intro e; rw [e] at this; cases this)
    | some a =>
      unfold wantOf at h
      cases hu : Tryz.prog.underlying 231 with
      | none => rw [hu] at h; cases h
      | some d =>
        rw [hu] at h
        cases d <;> simp at h
        exact ⟨_, by rw [h]⟩
  obtain ⟨i, hi⟩ : ∃ i, Tryz.prog.info? 226 = some i := by
    cases h : Tryz.prog.info? 226 with
    | none => exact absurd h (by have : (Tryz.prog.info? 226).isSome = true := by kernel_rfl
                                 intro e; rw [e] at this; cases this)
    | some i => exact ⟨i, rfl⟩
  have hl : lackRow Tryz.prog 226 231 = some false := by kernel_rfl
  have hne : (want.toList.filter fun (name, sig) => !i.methods.any fun m => m.name == name && m.sig == sig) ≠ [] := by
    intro e
    simp only [lackRow, wantOf, hi, hu, Option.bind_some, Option.map_some] at hl
    rw [e] at hl
    simp at hl
  obtain ⟨m, hm⟩ := missing_some hne
  have hz : (zeroValue 231).run Tryz.prog w = .ok .nilIface w := by kernel_rfl
  have ht : (typeInfo 226).run Tryz.prog w = .ok i w := by simp [typeInfo, hi]
  unfold Instr.typeAssert
  simp [run_underlying hu, ht, hm, hz]
/-- What is seen of a mark: its number, how far it is, and the slice of its links. -/
def IsS (sv : Value) (h : Ht) (a : Option Addr) (n c : Nat) : Prop := (sv = .iface 226 (.agg #[.int .i64 h.1, .slice a n c]) ∧ h.2 = 0) ∨ sv = .iface 229 (.agg #[.int .i64 h.1, .slice a n c, .int .i64 h.2])
theorem IsS.one {sv : Value} {h : Ht} {a : Option Addr} {n c : Nat} (k : IsS sv h a n c) : sv.oneCell' = true := by
  rcases k with ⟨k, -⟩ | k <;> rw [k] <;> rfl

set_option maxHeartbeats 400000 in
theorem pSpotId (x : Int) (a : Option Addr) (n c : Nat) (w : World) : Calls Tryz.prog 300 #[.agg #[.int .i64 x, .slice a n c]] w fun e w' => e = .returned (.int .i64 x) ∧ w' = w.alloc (.cells #[.int .i64 x, .slice a n c] 226) := by
  go_enter Tryz.func300, Tryz.ntmps300
  go_wp2_with fail
  go_ret
  exact ⟨rfl, rfl⟩
set_option maxHeartbeats 400000 in
theorem pSpotLinks (x : Int) (a : Option Addr) (n c : Nat) (w : World) : Calls Tryz.prog 301 #[.agg #[.int .i64 x, .slice a n c]] w fun e w' => e = .returned (.slice a n c) ∧ w' = w.alloc (.cells #[.int .i64 x, .slice a n c] 226) := by
  go_enter Tryz.func301, Tryz.ntmps301
  go_wp2_with fail
  go_ret
  exact ⟨rfl, rfl⟩
set_option maxHeartbeats 400000 in
theorem pTargetFar (x d : Int) (a : Option Addr) (n c : Nat) (w : World) : Calls Tryz.prog 302 #[.agg #[.int .i64 x, .slice a n c, .int .i64 d]] w fun e w' => e = .returned (.int .i64 d) ∧ w' = w.alloc (.cells #[.int .i64 x, .slice a n c, .int .i64 d] 229) := by
  go_enter Tryz.func302, Tryz.ntmps302
  go_wp2_with fail
  go_ret
  exact ⟨rfl, rfl⟩

set_option maxRecDepth 100000 in
set_option maxHeartbeats 1000000 in
theorem iHitOf (sv : Value) (h : Ht) (a : Option Addr) (n c : Nat) (w : World) (hs : IsS sv h a n c) :
    Calls Tryz.prog 173 #[sv] w fun e w' => e = .returned (.agg #[.int .i64 h.1, .int .i64 h.2]) ∧ Below w.heap.size w w' := by
  rcases hs with ⟨rfl, h0⟩ | rfl
  · have M1 := m_idS h.1 a n c
    have HI := hidP (fun w => pSpotId h.1 a n c w)
    have A1 := as_S (.agg #[.int .i64 h.1, .slice a n c])
    rw [h0]
    clear h0
    go_enter Tryz.func173, Tryz.ntmps173
    go_wp2_with fail
    refine (HI.out _).mono ?_
    rintro e w1 ⟨rfl, rfl⟩
    go_wp2_with fail
    refine bodyPost_ret (v := .agg #[.int .i64 h.1, .int .i64 0]) (by simp [results, Tryz.results173, go_sem]) rfl ?_
    exact ⟨rfl, ((((Below.refl _ _).alloc (Nat.le_refl _) _).alloc (by simp) _).alloc (by simp; omega) _)⟩
  · have M1 := m_idT h.1 h.2 a n c
    have M2 := m_farT h.1 h.2 a n c
    have HI := hidP (fun w => pSpotId h.1 a n c w)
    have HF := hidP (fun w => pTargetFar h.1 h.2 a n c w)
    have A1 := as_T (.agg #[.int .i64 h.1, .slice a n c, .int .i64 h.2])
    go_enter Tryz.func173, Tryz.ntmps173
    go_wp2_with fail
    refine (HI.out _).mono ?_
    rintro e w1 ⟨rfl, rfl⟩
    go_wp2_with fail
    refine (HF.out _).mono ?_
    rintro e w1 ⟨rfl, rfl⟩
    go_wp2_with fail
    refine bodyPost_ret (v := .agg #[.int .i64 h.1, .int .i64 h.2]) (by simp [results, Tryz.results173, go_sem]) rfl ?_
    exact ⟨rfl, (((((Below.refl _ _).alloc (Nat.le_refl _) _).alloc (by simp) _).alloc (by simp; omega) _).alloc (by simp; omega) _)⟩
end Go.Proofs.YtfbhohpbhjlihaaGreat
namespace Go.Proofs.YtfbhohpbhjlihaaGreat
open Go Go.RowKit

/-- A block of five cells. -/
def Fiv (w : World) (p : Nat) (a b c d e : Value) (t : TypeId) : Prop := w.heap[p]? = some (.cells #[a, b, c, d, e] t (0, 0))
theorem Fiv.lt {w : World} {p : Nat} {a b c d e : Value} {t : TypeId} (h : Fiv w p a b c d e t) : p < w.heap.size := by
  rcases Nat.lt_or_ge p w.heap.size with h1 | h1
  · exact h1
  · unfold Fiv at h; rw [Array.getElem?_eq_none h1] at h; cases h
theorem Fiv.cells {w : World} {p : Nat} {a b c d e : Value} {t : TypeId} (h : Fiv w p a b c d e t) : w.cell? ⟨p, 0, none⟩ = some a ∧ w.cell? ⟨p, 1, none⟩ = some b ∧ w.cell? ⟨p, 2, none⟩ = some c ∧ w.cell? ⟨p, 3, none⟩ = some d ∧ w.cell? ⟨p, 4, none⟩ = some e := by unfold Fiv at h; simp [World.cell?, h]
theorem Fiv.frozen {w : World} {p : Nat} {a b c d e : Value} {t : TypeId} (h : Fiv w p a b c d e t) (j : Nat) : w.frozen? ⟨p, j, none⟩ = false := by unfold Fiv at h; simp [World.frozen?, h]
theorem Fiv.below {w w' : World} {p : Nat} {a b c d e : Value} {t : TypeId} (h : Fiv w p a b c d e t) (hb : Below w.heap.size w w') : Fiv w' p a b c d e t := (hb.block p h.lt).trans h
theorem Fiv.new (w : World) (a b c d e : Value) (t : TypeId) : Fiv (w.alloc (.cells #[a, b, c, d, e] t)) w.heap.size a b c d e t := heap_alloc_new w _
theorem Fiv.kept {w w' : World} {p : Nat} {a b c d e : Value} {t : TypeId} {r : Option Nat} (h : Fiv w p a b c d e t) (hg : w.grownBy w' r) (hr : some p ≠ r) : Fiv w' p a b c d e t := (hg.block p h.lt hr).trans h
theorem Fiv.set3 {w : World} {p : Nat} {a b c d e : Value} {t : TypeId} (h : Fiv w p a b c d e t) (x : Value) : Fiv (w.setCell ⟨p, 3, none⟩ x) p a b c x e t := by
  unfold Fiv World.setCell at *
  simp only [Array.getElem?_modify, if_true, h]
  rfl
theorem Fiv.set4 {w : World} {p : Nat} {a b c d e : Value} {t : TypeId} (h : Fiv w p a b c d e t) (x : Value) : Fiv (w.setCell ⟨p, 4, none⟩ x) p a b c d x t := by
  unfold Fiv World.setCell at *
  simp only [Array.getElem?_modify, if_true, h]
  rfl

/-- How far a mark is from the place that is asked for; nought where none is. -/
def ddQ (ms : List Mk) (q : List Int) (x : Int) : Int := if q.length = 0 then 0 else farV q (mat ms (zIdx ms x))
/-- What the program's own functions may count on. -/
structure LkIn (w : World) (am : Option Addr) (ms : List Mk) (al : Option Addr) (ls : List (List Int)) (aq : Option Addr) (q : List Int) : Prop where
  mv : MView w am ms
  cv : CView w al ls
  qv : View w aq q
theorem LkIn.below {w w' : World} {B : Nat} {am al aq : Option Addr} {ms : List Mk} {ls : List (List Int)} {q : List Int} (h : LkIn w am ms al ls aq q) (hB : w.heap.size ≤ B) (L : Below B w w') : LkIn w' am ms al ls aq q := ⟨h.mv.below hB L, h.cv.below hB L, h.qv.below hB L⟩
theorem LkIn.next {w w' : World} {am al aq : Option Addr} {ms : List Mk} {ls : List (List Int)} {q : List Int} (h : LkIn w am ms al ls aq q) (L : Below w.heap.size w w') : LkIn w' am ms al ls aq q := h.below (Nat.le_refl _) L
structure LkWeb (ms : List Mk) (ls : List (List Int)) (q : List Int) : Prop where
  web : webB ms ls = true
  two : q.length ≠ 0 → ∀ i, i < ms.length → twoB q (mat ms i) = true
/-- What is seen of the mark with this number. -/
def Sees (w : World) (ms : List Mk) (ls : List (List Int)) (q : List Int) (x : Int) (sv : Value) : Prop := ∃ a c, IsS sv (x, ddQ ms q x) a (cn ls (zIdx ms x)).length c ∧ View w a (cn ls (zIdx ms x))
theorem Sees.next {w w' : World} {ms : List Mk} {ls : List (List Int)} {q : List Int} {x : Int} {sv : Value} (h : Sees w ms ls q x sv) (L : Below w.heap.size w w') : Sees w' ms ls q x sv := by
  obtain ⟨a, c, h1, h2⟩ := h
  exact ⟨a, c, h1, h2.next L⟩

set_option maxRecDepth 100000 in
set_option maxHeartbeats 2000000 in
theorem iSightOf (G : Nat) (am al aq : Option Addr) (cm cl cq : Nat) (ms : List Mk) (ls : List (List Int)) (q : List Int) (sv ov : Value) (x : Int) (W0 w : World) (hL0 : Below W0.heap.size W0 w) (hG : Fiv w G (.slice am ms.length cm) (.slice al ls.length cl) (.slice aq q.length cq) sv ov 123) (hI : LkIn W0 am ms al ls aq q) (hW : LkWeb ms ls q) (hx : 0 ≤ zFind ms x) :
    Calls Tryz.prog 172 #[.pointer (some ⟨G, 0, none⟩), .int .i64 x] w fun e w' => (∃ r, e = .returned r ∧ Sees W0 ms ls q x r) ∧ Below w.heap.size w w' := by
  have hmb := web_marks hW.web
  have hll := web_len hW.web
  have HP := hidP (iPlace am al cm ls.length cl ms x w (hI.mv.next hL0) hmb)
  rw [plc_idx hmb hx, decide_eq_true hx] at HP
  obtain ⟨za, -, -⟩ := zIdx_lt hx
  have hjl : zIdx ms x < ls.length := by omega
  have hm60 := marksB_len hmb
  obtain ⟨g0, g1, g2, -, -⟩ := hG.cells
  have HG := hidP hG
  have HI := hidP hI
  have HW := hidP hW
  have HX : Hid (∀ sv' a c, IsS sv' (x, ddQ ms q x) a (cn ls (zIdx ms x)).length c → View W0 a (cn ls (zIdx ms x)) → Sees W0 ms ls q x sv') := fun sv' a c h1 h2 => ⟨a, c, h1, h2⟩
  have HL0 := hidP hL0
  have HD : Hid (ddQ ms q x = if q.length = 0 then 0 else farV q (mat ms (zIdx ms x))) := rfl
  generalize ddQ ms q x = d at *
  clear hG hI hW hmb hll hx hL0
  generalize hj : zIdx ms x = j at *
  clear hj
  go_enter Tryz.func172, Tryz.ntmps172
  go_wp2_with fail
  refine HP.out.mono ?_
  rintro e w1 ⟨rfl, L1⟩
  have hG1 := HG.out.below L1
  have hI1 := HI.out.next (chain HL0.out L1)
  have HL1 := hidP L1
  have hL01 := chain HL0.out L1
  clear L1 g0 g1 g2
  obtain ⟨g0, g1, g2, -, -⟩ := hG1.cells
  obtain ⟨b, off, rfl, hbr0, hs⟩ := HI.out.cv.seg (by omega)
  obtain ⟨a, c, c10, hvw⟩ := hs j hjl
  have c1 := (hL01.cell (p := ⟨b, off + j, none⟩) hbr0).trans c10
  clear c10 hbr0 hL01
  have hj0 : (0 : Int) ≤ (j : Int) := Int.natCast_nonneg _
  have hj1 : (j : Int) < (ls.length : Int) := by omega
  have HVW := hidP hvw
  have HI1 := hidP hI1
  have HG1 := hidP hG1
  have hGl := hG1.lt
  clear hs hvw hI1 hG1
  by_cases hq : q.length = 0
  · have hqb : ((q.length : Int) == 0) = true := by simp [hq]
    have hd : d = 0 := by rw [HD.out, if_pos hq]
    have HB : Hid (Below w1.heap.size w1 (w1.alloc (.cells #[.int .i64 x, .slice a (cn ls j).length c] 226))) := (Below.refl _ _).alloc (Nat.le_refl _) _
    clear HD hq
    subst hd
    go_wp2_with fail
    go_ret
    exact ⟨⟨_, rfl, HX.out _ a c (Or.inl ⟨rfl, rfl⟩) HVW.out⟩, chain HL1.out HB.out⟩
  · have hqb : ((q.length : Int) == 0) = false := by rw [beq_eq_false_iff_ne]; omega
    have htw := HW.out.two hq j za
    have hd : d = farV q (mat ms j) := by rw [HD.out, if_neg hq]
    obtain ⟨bm, om, rfl, hbm, hms⟩ := MSeg.seg HI1.out.mv (by omega)
    obtain ⟨-, am2, cm2, d1, hvm⟩ := hms.at (i := j) za
    have hj2 : (j : Int) < (ms.length : Int) := by omega
    obtain ⟨V, hV⟩ : ∃ V, w1.alloc (.cells #[.int .i64 x, .slice a (cn ls j).length c] 226) = V := ⟨_, rfl⟩
    have HB : Hid (Below w1.heap.size w1 V) := by show Below _ _ _; rw [← hV]; exact (Below.refl _ _).alloc (Nat.le_refl _) _
    have hv0 : V.cell? ⟨w1.heap.size, 0, none⟩ = some (.int .i64 x) := by rw [← hV]; simp
    have hv1 : V.cell? ⟨w1.heap.size, 1, none⟩ = some (.slice a (cn ls j).length c) := by rw [← hV]; simp
    have hVl : w1.heap.size < V.heap.size := by rw [← hV]; simp
    have hqv := HI1.out.qv
    have HC : Hid (∀ W', Below w1.heap.size w1 W' → Calls Tryz.prog 222 #[.slice aq q.length cq, .slice am2 (mat ms j).length cm2] W' fun e w' => e = .returned (.int .i64 d) ∧ Below W'.heap.size W' w') := fun W' L' => by
      rw [hd]
      obtain ⟨ta, tb, tl⟩ := twoB_of htw
      have h4 := okB_len ta
      obtain ⟨b1, o1, rfl, hb1, hs1⟩ : ∃ b off, aq = some ⟨b, off, none⟩ ∧ b < W'.heap.size ∧ Seg W' b off q := by
        rcases hqv.next L' with h | h
        · rw [h] at h4; simp at h4
        · exact h
      obtain ⟨b2, o2, rfl, hb2, hs2⟩ : ∃ b off, am2 = some ⟨b, off, none⟩ ∧ b < W'.heap.size ∧ Seg W' b off (mat ms j) := by
        rcases hvm.next L' with h | h
        · rw [h] at tl; simp at tl; rw [tl] at h4; simp at h4
        · exact h
      have h := pFar b1 o1 cq b2 o2 cm2 q (mat ms j) W' hs1 hs2 hb1 hb2 htw
      rw [show farV q (mat ms j) = sumTo (sqF q (mat ms j)) q.length by rw [farV, if_pos htw]]
      exact h
    obtain ⟨Y, hY⟩ : ∃ Y, Y = w1.heap.size := ⟨_, rfl⟩
    have HK : Hid (∀ w', Below V.heap.size V w' → w'.cell? ⟨Y, 0, none⟩ = some (.int .i64 x) ∧ w'.cell? ⟨Y, 1, none⟩ = some (.slice a (cn ls j).length c) ∧ w'.cell? ⟨G, 2, none⟩ = some (.slice aq q.length cq) ∧ w'.cell? ⟨G, 0, none⟩ = some (.slice (some ⟨bm, om, none⟩) ms.length cm) ∧ w'.cell? ⟨bm, om + j * 2 + 1, none⟩ = some (.slice am2 (mat ms j).length cm2)) := fun w' L => by
      have L' := chain HB.out L
      rw [hY]
      exact ⟨(L.cell (p := ⟨w1.heap.size, 0, none⟩) hVl).trans hv0, (L.cell (p := ⟨w1.heap.size, 1, none⟩) hVl).trans hv1, (L'.cell (p := ⟨G, 2, none⟩) hGl).trans g2, (L'.cell (p := ⟨G, 0, none⟩) hGl).trans g0, (L'.cell (p := ⟨bm, om + j * 2 + 1, none⟩) hbm).trans d1⟩
    clear hms hvm hqv htw hd HD HW hv0 hv1 hVl hq
    generalize (mat ms j).length = yl at *
    generalize (cn ls j).length = nl at *
    have v2 := (HK.out V (Below.refl _ _)).2.2.1
    go_wp2_with fail
    rw [← hY]
    clear v2
    obtain ⟨z0, z1, z2, z3, z4⟩ := HK.out V (Below.refl _ _)
    clear hV g0 g1 g2 c1 d1 hY
    go_region_held3 (fun w' => w'.cell? ⟨Y, 0, none⟩ = some (.int .i64 x) ∧ w'.cell? ⟨Y, 1, none⟩ = some (.slice a nl c) ∧ w'.cell? ⟨G, 2, none⟩ = some (.slice aq q.length cq) ∧ w'.cell? ⟨G, 0, none⟩ = some (.slice (some ⟨bm, om, none⟩) ms.length cm) ∧ w'.cell? ⟨bm, om + j * 2 + 1, none⟩ = some (.slice am2 yl cm2))
      (first
        | go_keep
        | exact HK.out _ (Below.trans ((Below.refl V.heap.size V).drew) L2))
      (first | (go_at_call 222; refine (HC.out _ (Below.drew HB.out)).mono ?_; rintro e w2 ⟨rfl, L2⟩))
    have HL3 : Hid (Below w1.heap.size w1 w2) := chain HB.out (Below.trans ((Below.refl V.heap.size V).drew) L2)
    clear L2 HC HK z0 z1 z2 z3 z4
    simp only [Exit.then]
    go_wp2_with fail
    go_ret
    exact ⟨⟨_, rfl, HX.out _ a c (Or.inr rfl) HVW.out⟩, chain HL1.out HL3.out⟩
end Go.Proofs.YtfbhohpbhjlihaaGreat
namespace Go.Proofs.YtfbhohpbhjlihaaGreat
open Go Go.RowKit

theorem own_next {base e size n : Nat} {w w' : World} {v : Value} {xs : List Value} (h : w.ownsRow base e size v n xs) (hb : Below w.heap.size w w') : w'.ownsRow base e size v n xs := by
  obtain ⟨h1, h2⟩ := h
  refine ⟨h1, ?_⟩
  rcases h2 with h2 | ⟨g, cp, cur, e1, hb1, hg, h5⟩
  · exact Or.inl h2
  · exact Or.inr ⟨g, cp, cur, e1, hb1, (hb.block g (Array.getElem?_eq_some_iff.1 hg).1).trans hg, h5⟩
def numC (l : List Int) : List Value := l.map (fun x => Value.int .i64 x)
theorem numC_len (l : List Int) : (numC l).length = l.length := by simp [numC]
/-- What the program has seen and opened: the gaze lies at G; the web and the place asked for lie in W0. -/
structure Gz (W0 w : World) (G : Nat) (am : Option Addr) (cm : Nat) (ms : List Mk) (al : Option Addr) (cl : Nat) (ls : List (List Int)) (aq : Option Addr) (cq : Nat) (q : List Int) (s : List Ht) (op : List Int) (as1 : Option Addr) (cs : Nat) (vs : List Value) (ao : Option Addr) (co : Nat) : Prop where
  five : Fiv w G (.slice am ms.length cm) (.slice al ls.length cl) (.slice aq q.length cq) (.slice as1 s.length cs) (.slice ao op.length co) 123
  low : W0.heap.size ≤ G
  sr : w.ownsRow W0.heap.size 193 1 (.slice as1 s.length cs) s.length vs
  vl : vs.length = s.length
  sees : ∀ k, k < s.length → Sees W0 ms ls q (hnth s k).1 (vs.getD k .nilIface)
  opr : w.ownsRow W0.heap.size 2 1 (.slice ao op.length co) op.length (numC op)
  a1 : (Value.slice as1 s.length cs).ownBlock ≠ some G
  a2 : (Value.slice ao op.length co).ownBlock ≠ some G
  a3 : ∀ g, (Value.slice as1 s.length cs).ownBlock = some g → (Value.slice ao op.length co).ownBlock ≠ some g
  bel : Below W0.heap.size W0 w
theorem Gz.next {W0 w w' : World} {G cm cl cq cs co : Nat} {am al aq as1 ao : Option Addr} {ms : List Mk} {ls : List (List Int)} {q op : List Int} {s : List Ht} {vs : List Value} (h : Gz W0 w G am cm ms al cl ls aq cq q s op as1 cs vs ao co) (L : Below w.heap.size w w') : Gz W0 w' G am cm ms al cl ls aq cq q s op as1 cs vs ao co :=
  ⟨h.five.below L, h.low, own_next h.sr L, h.vl, h.sees, own_next h.opr L, h.a1, h.a2, h.a3, chain h.bel L⟩
/-- A row of values of one cell reads as what it holds. -/
theorem own_cell {base e n : Nat} {w : World} {a : Option Addr} {m c : Nat} {xs : List Value} (h : w.ownsRow base e 1 (.slice a m c) n xs) (hx : 0 < xs.length) : ∃ g, a = some ⟨g, 0, none⟩ ∧ base ≤ g ∧ g < w.heap.size ∧ ∀ k, k < xs.length → w.cell? ⟨g, k, none⟩ = some (xs.getD k .nilIface) := by
  obtain ⟨h1, h2⟩ := h
  rcases h2 with ⟨e1, e2⟩ | ⟨g, cp, cur, e1, hb, hg, hnc, hcm, hsz, htk⟩
  · rw [e2] at h1; simp at h1; rw [h1] at hx; simp at hx
  · injection e1 with e1
    refine ⟨g, e1, hb, (Array.getElem?_eq_some_iff.1 hg).1, fun k hk => ?_⟩
    rw [Nat.mul_one] at htk h1
    have hk2 : k < cur.size := by
      have : (cur.toList.take n).length = xs.length := by rw [htk]
      rw [List.length_take, Array.length_toList] at this
      omega
    have e : xs[k]? = cur[k]? := by
      rw [← htk, List.getElem?_take, if_pos (by omega)]
      simp
    simp only [World.cell?, hg]
    rw [List.getD_eq_getElem?_getD, e]
    simp [hk2]

set_option maxRecDepth 100000 in
set_option maxHeartbeats 2000000 in
theorem iSeeFn (B H : Nat) (W0 w : World) (G cm cl cq cs co : Nat) (am al aq as1 ao : Option Addr) (ms : List Mk) (ls : List (List Int)) (q op : List Int) (s : List Ht) (vs : List Value) (h : Ht) (i : Nat) (hg : Gz W0 w G am cm ms al cl ls aq cq q s op as1 cs vs ao co) (hd : LookD (ddQ ms q) s) (hB : w.cell? ⟨B, 0, none⟩ = some (.pointer (some ⟨G, 0, none⟩))) (hH : Two w H (.int .i64 h.1) (.int .i64 h.2) 44) (hi : i < s.length) :
    Calls Tryz.prog 175 #[.int .i64 i, .pointer (some ⟨B, 0, none⟩), .pointer (some ⟨H, 0, none⟩)] w fun e w' => e = .returned (.bool (!aheadB (hnth s i) h)) ∧ Below w.heap.size w w' := by
  obtain ⟨sb, rfl, hsb, hsl, hsc⟩ := own_cell hg.sr (by rw [hg.vl]; omega)
  have c0 := hsc i (by rw [hg.vl]; exact hi)
  obtain ⟨la, lc, hIs, -⟩ := hg.sees i hi
  have hfar := hd.far _ (hnth_in14 hi)
  have hpair : ((hnth s i).1, ddQ ms q (hnth s i).1) = hnth s i := by rw [← hfar]
  rw [hpair] at hIs
  obtain ⟨_, _, _, g3, _⟩ := hg.five.cells
  have hGl := hg.five.lt
  have hBl : B < w.heap.size := cell_lt hB
  have hHl := hH.lt
  have e0 := hH.c0
  have e1 := hH.c1
  have HHO := hidP (fun w' => iHitOf _ _ la _ lc w' hIs)
  have HAH := hidP (fun w' => iAhead (hnth s i) h w')
  have hi0 : (0 : Int) ≤ (i : Int) := Int.natCast_nonneg _
  have hi1 : (i : Int) < (s.length : Int) := by omega
  clear hsc hfar hpair hIs hH hd hg
  generalize hnth s i = t at *
  generalize vs.getD i .nilIface = sv at *
  have HK : Hid (∀ w', Below w.heap.size w w' → w'.cell? ⟨B, 0, none⟩ = some (.pointer (some ⟨G, 0, none⟩)) ∧ w'.cell? ⟨G, 3, none⟩ = some (.slice (some ⟨sb, 0, none⟩) s.length cs) ∧ w'.cell? ⟨sb, i, none⟩ = some sv ∧ w'.cell? ⟨H, 0, none⟩ = some (.int .i64 h.1) ∧ w'.cell? ⟨H, 1, none⟩ = some (.int .i64 h.2)) := fun w' L => ⟨(L.cell (p := ⟨B, 0, none⟩) hBl).trans hB, (L.cell (p := ⟨G, 3, none⟩) hGl).trans g3, (L.cell (p := ⟨sb, i, none⟩) hsl).trans c0, (L.cell (p := ⟨H, 0, none⟩) hHl).trans e0, (L.cell (p := ⟨H, 1, none⟩) hHl).trans e1⟩
  go_enter Tryz.func175, Tryz.ntmps175
  go_wp2_with fail
  go_region_held3 (fun w' => w'.cell? ⟨B, 0, none⟩ = some (.pointer (some ⟨G, 0, none⟩)) ∧ w'.cell? ⟨G, 3, none⟩ = some (.slice (some ⟨sb, 0, none⟩) s.length cs) ∧ w'.cell? ⟨sb, i, none⟩ = some sv ∧ w'.cell? ⟨H, 0, none⟩ = some (.int .i64 h.1) ∧ w'.cell? ⟨H, 1, none⟩ = some (.int .i64 h.2))
    (first
      | go_keep
      | exact HK.out _ (chain (Below.trans ((Below.refl w.heap.size w).drew) L2) L3)
      | exact HK.out _ (Below.trans ((Below.refl w.heap.size w).drew) L2))
    (first
      | (go_at_call 173; refine (HHO.out _).mono ?_; rintro e w2 ⟨rfl, L2⟩)
      | (go_at_call 122; refine (HAH.out _).mono ?_; rintro e w3 ⟨rfl, L3⟩))
  have HL4 : Hid (Below w.heap.size w w3) := chain (Below.trans ((Below.refl w.heap.size w).drew) L2) L3
  clear L2 L3 HHO HAH HK e0 e1 c0 g3 hB
  simp only [Exit.then]
  go_wp2_with fail
  go_ret
  exact ⟨rfl, HL4.out⟩

set_option maxRecDepth 100000 in
set_option maxHeartbeats 1000000 in
theorem iSearchG (B H : Nat) (W0 w : World) (G cm cl cq cs co : Nat) (am al aq as1 ao : Option Addr) (ms : List Mk) (ls : List (List Int)) (q op : List Int) (s : List Ht) (vs : List Value) (h : Ht) (hg : Gz W0 w G am cm ms al cl ls aq cq q s op as1 cs vs ao co) (hd : LookD (ddQ ms q) s) (hB : w.cell? ⟨B, 0, none⟩ = some (.pointer (some ⟨G, 0, none⟩))) (hH : Two w H (.int .i64 h.1) (.int .i64 h.2) 44) (hn : s.length ≤ 60) :
    Calls Tryz.prog 174 #[.int .i64 s.length, .func (Fn.func 175) #[] #[.pointer (some ⟨B, 0, none⟩), .pointer (some ⟨H, 0, none⟩)]] w fun e w' => e = .returned (.int .i64 (posA h s : Nat)) ∧ Below w.heap.size w w' := by
  have hBl : B < w.heap.size := cell_lt hB
  have HF : Hid (∀ W i, Below w.heap.size w W → i < s.length → Calls Tryz.prog 175 #[.int .i64 (i : Nat), .pointer (some ⟨B, 0, none⟩), .pointer (some ⟨H, 0, none⟩)] W fun e w' => e = .returned (.bool (!aheadB (hnth s i) h)) ∧ Below W.heap.size W w') := fun W i L hi =>
    iSeeFn B H W0 W G cm cl cq cs co am al aq as1 ao ms ls q op s vs h i (hg.next L) hd ((L.cell (p := ⟨B, 0, none⟩) hBl).trans hB) (hH.below L) hi
  have HLO := hidP (posA_low h s)
  have HHI := hidP (posA_high hd.so h)
  have hpl := posA_le h s
  clear hB hH hg hd
  generalize posA h s = p at *
  go_enter Tryz.func174, Tryz.ntmps174
  go_wp2_with fail
  go_loopw [5, 6] (fun i j wr => ∃ x y : Nat, x ≤ p ∧ p ≤ y ∧ y ≤ s.length ∧ i = .int .i64 x ∧ j = .int .i64 y ∧ Below w.heap.size w wr) (fun i j _ => (intOf j).toNat - (intOf i).toNat)
  case atStart => exact ⟨0, s.length, Nat.zero_le _, hpl, Nat.le_refl _, rfl, rfl, Below.refl _ _⟩
  case round =>
    obtain ⟨x, y, hxp, hpy, hy, rfl, rfl, L⟩ := hrel
    by_cases hlt : x < y
    · have hu1 : IntKind.u64.wrap ((x : Int) + (y : Int)) = (x : Int) + (y : Int) := by rw [IntKind.wrap_u64]; omega
      obtain ⟨m, hm⟩ : ∃ m : Nat, m = (x + y) / 2 := ⟨_, rfl⟩
      have hmi : ((x : Int) + (y : Int)) / 2 = (m : Int) := by omega
      have HC := hidP (HF.out wr m L (by omega))
      have HL := hidP L
      have HMI := hidP hmi
      have hm1 : x ≤ m ∧ m < y := by omega
      have HM1 := hidP hm1
      clear L hmi hm hm1
      rcases hv : aheadB (hnth s m) h with _ | _
      · have hpm : p ≤ m := by
          rcases Nat.lt_or_ge m p with h1 | h1
          · have := HLO.out m h1; rw [hv] at this; cases this
          · exact h1
        rw [hv] at HC
        clear hv
        go_wp2_with fail
        rw [HMI.out]
        refine HC.out.mono ?_
        rintro e w2 ⟨rfl, L2⟩
        have HL2 := hidP (chain HL.out L2)
        clear L2
        go_wp2_with fail
        go_roundw
        case rel => exact ⟨x, m, hxp, hpm, by have := HM1.out; omega, rfl, rfl, HL2.out⟩
        case measure => have := HM1.out; simp [intOf]; omega
      · have hpm : m < p := by
          rcases Nat.lt_or_ge m p with h1 | h1
          · exact h1
          · have := HHI.out m h1 (by have := HM1.out; omega); rw [hv] at this; cases this
        rw [hv] at HC
        clear hv
        go_wp2_with fail
        rw [HMI.out]
        refine HC.out.mono ?_
        rintro e w2 ⟨rfl, L2⟩
        have HL2 := hidP (chain HL.out L2)
        clear L2
        go_wp2_with fail
        go_roundw
        case rel => exact ⟨m + 1, y, by omega, hpy, hy, by go_num, rfl, HL2.out⟩
        case measure => have := HM1.out; simp [intOf]; omega
    · obtain rfl : x = p := by omega
      go_wp2_with fail
      go_ret
      exact ⟨rfl, L⟩
end Go.Proofs.YtfbhohpbhjlihaaGreat
namespace Go.Proofs.YtfbhohpbhjlihaaGreat
open Go Go.RowKit

theorem ins_nth {α : Type} (l : List α) (x d : α) (p k : Nat) (hp : p ≤ l.length) : (l.take p ++ x :: l.drop p).getD k d = if k < p then l.getD k d else if k = p then x else l.getD (k - 1) d := by
  have hl : (l.take p).length = p := by simp; omega
  rw [List.getD_eq_getElem?_getD, List.getElem?_append, hl]
  by_cases h1 : k < p
  · rw [if_pos h1, if_pos h1, List.getElem?_take, if_pos h1, List.getD_eq_getElem?_getD]
  · rw [if_neg h1, if_neg h1]
    by_cases h2 : k = p
    · rw [if_pos h2, h2]; simp
    · rw [if_neg h2]
      obtain ⟨j, hj⟩ : ∃ j, k - p = j + 1 := ⟨k - p - 1, by omega⟩
      rw [hj, List.getElem?_cons_succ, List.getElem?_drop, List.getD_eq_getElem?_getD]
      congr 2
      omega
theorem IsS.meth {sv : Value} {h : Ht} {a : Option Addr} {n c : Nat} (k : IsS sv h a n c) : ∃ t v, sv = .iface t v ∧ (∀ w, Sem.run Tryz.prog (method 396 t v "loop.example/g00273/impl.id") w = .ok (300, .agg #[.int .i64 h.1, .slice a n c]) w) ∧ ∀ w, Sem.run Tryz.prog (method 396 t v "loop.example/g00273/impl.links") w = .ok (301, .agg #[.int .i64 h.1, .slice a n c]) w := by
  rcases k with ⟨k, -⟩ | k
  · exact ⟨_, _, k, fun w => m_idS _ _ _ _ w, fun w => m_linksS _ _ _ _ w⟩
  · exact ⟨_, _, k, fun w => m_idT _ _ _ _ _ w, fun w => m_linksT _ _ _ _ _ w⟩
theorem Gz.one {W0 w : World} {G cm cl cq cs co : Nat} {am al aq as1 ao : Option Addr} {ms : List Mk} {ls : List (List Int)} {q op : List Int} {s : List Ht} {vs : List Value} (h : Gz W0 w G am cm ms al cl ls aq cq q s op as1 cs vs ao co) : ∀ v ∈ vs, v.oneCell' = true := by
  intro v hv
  obtain ⟨k, hk, e⟩ := List.mem_iff_getElem.1 hv
  obtain ⟨a, c, hIs, -⟩ := h.sees k (by rw [← h.vl]; exact hk)
  have e2 : vs.getD k .nilIface = v := by simp [List.getD, hk, e]
  rw [e2] at hIs
  exact hIs.one
/-- One more among what is seen. -/
theorem Gz.put {W0 w w5 w6 : World} {G cm cl cq cs co : Nat} {am al aq as1 ao : Option Addr} {ms : List Mk} {ls : List (List Int)} {q op : List Int} {s : List Ht} {vs : List Value} {x : Int} {r : Value} {g c5 p : Nat} (h : Gz W0 w G am cm ms al cl ls aq cq q s op as1 cs vs ao co) (hx : x ∉ idsH s) (hp : p = posA (x, ddQ ms q x) s) (hr : Sees W0 ms ls q x r) (hrow : VRowS W0.heap.size w5 g c5 (vs.take p ++ r :: vs.drop p)) (hgr : w.grownBy w5 (Value.slice as1 s.length cs).ownBlock) (hat : (Value.slice as1 s.length cs).ownBlock = some g ∨ g = w.heap.size) (h6 : w6 = w5.setCell ⟨G, 3, none⟩ (.slice (some ⟨g, 0, none⟩) (s.length + 1) c5)) :
    ∃ vs', Gz W0 w6 G am cm ms al cl ls aq cq q (seeD (ddQ ms q) s x) op (some ⟨g, 0, none⟩) c5 vs' ao co := by
  have hb : hasB (idsH s) x = false := (hasB_no _ _).2 hx
  have es : seeD (ddQ ms q) s x = s.take p ++ (x, ddQ ms q x) :: s.drop p := by
    unfold seeD
    rw [hb, if_neg (by simp), posA_put (ddQ ms q) hx, hp]
  have hpl : p ≤ s.length := by rw [hp]; exact posA_le _ _
  have hlen : (seeD (ddQ ms q) s x).length = s.length + 1 := by rw [es]; simp; omega
  have hvl : (vs.take p ++ r :: vs.drop p).length = s.length + 1 := by have := h.vl; simp; omega
  have hGl := h.five.lt
  have hob := World.ownsRow.lt h.opr
  have hgG : g ≠ G := by
    rcases hat with e | e
    · intro e2; rw [e2] at e; exact h.a1 e
    · omega
  have F5 : Fiv w5 G (.slice am ms.length cm) (.slice al ls.length cl) (.slice aq q.length cq) (.slice as1 s.length cs) (.slice ao op.length co) 123 := h.five.kept hgr (fun e => h.a1 e.symm)
  have hg6 : w5.grownBy w6 (some G) := by rw [h6]; exact grown_setCell w5 G 3 _
  have O5 : w5.ownsRow W0.heap.size 2 1 (.slice ao op.length co) op.length (numC op) := World.ownsRow.kept h.opr hgr (by
    cases he : (Value.slice ao op.length co).ownBlock with
    | none => exact Or.inl rfl
    | some b => exact Or.inr fun e => h.a3 b e.symm he)
  refine ⟨vs.take p ++ r :: vs.drop p, ?_, h.low, ?_, by rw [hvl, hlen], fun k hk => ?_, ?_, ?_, h.a2, fun g' e => ?_, ?_⟩
  · rw [hlen, h6]; exact F5.set3 _
  · have e1 : VRowS W0.heap.size w6 g c5 (vs.take p ++ r :: vs.drop p) := World.ownsRow.kept hrow hg6 (Or.inr fun e => by
      have e' : some g = some G := e
      injection e' with e'
      exact hgG e')
    have e2 : w6.ownsRow W0.heap.size 193 1 (.slice (some ⟨g, 0, none⟩) (vs.take p ++ r :: vs.drop p).length c5) (vs.take p ++ r :: vs.drop p).length (vs.take p ++ r :: vs.drop p) := e1
    rw [hvl] at e2
    rw [hlen]
    exact e2
  · rw [hlen] at hk
    rw [ins_nth vs r .nilIface p k (by rw [h.vl]; exact hpl)]
    have e : hnth (seeD (ddQ ms q) s x) k = if k < p then hnth s k else if k = p then (x, ddQ ms q x) else hnth s (k - 1) := by
      rw [es]
      exact ins_nth s (x, ddQ ms q x) (0, 0) p k hpl
    rw [e]
    by_cases h1 : k < p
    · rw [if_pos h1, if_pos h1]; exact h.sees k (by omega)
    · rw [if_neg h1, if_neg h1]
      by_cases h2 : k = p
      · rw [if_pos h2, if_pos h2]; exact hr
      · rw [if_neg h2, if_neg h2]; exact h.sees (k - 1) (by omega)
  · exact World.ownsRow.kept O5 hg6 (Or.inr h.a2)
  · intro e
    have e' : some g = some G := e
    injection e' with e'
    exact hgG e'
  · have e' : some g = some g' := e
    injection e' with e'
    subst e'
    rcases hat with e2 | e2
    · exact h.a3 g e2
    · intro e3
      have := (hob g e3).2
      omega
  · have hsb := World.ownsRow.lt h.sr
    exact (h.bel.grown hgr (by have := h.bel.size; omega) (fun k hk => (hsb k hk).1)).grown hg6 (by have := h.bel.size; have := hgr.size; omega) (fun k hk => by cases hk; exact h.low)

set_option maxRecDepth 100000 in
set_option maxHeartbeats 8000000 in
theorem iSee (W0 w : World) (G cm cl cq cs co : Nat) (am al aq as1 ao : Option Addr) (ms : List Mk) (ls : List (List Int)) (q op : List Int) (s : List Ht) (vs : List Value) (x : Int) (hg : Gz W0 w G am cm ms al cl ls aq cq q s op as1 cs vs ao co) (hI : LkIn W0 am ms al ls aq q) (hW : LkWeb ms ls q) (hd : LookD (ddQ ms q) s) (hx : 0 ≤ zFind ms x) (hn : s.length ≤ 60) :
    Calls Tryz.prog 101 #[.pointer (some ⟨G, 0, none⟩), .int .i64 x] w fun e w' => e = .returned (.bool (!hasB (idsH s) x)) ∧ ∃ as2 cs2 vs2, Gz W0 w' G am cm ms al cl ls aq cq q (seeD (ddQ ms q) s x) op as2 cs2 vs2 ao co := by
  obtain ⟨W1, hW1⟩ : ∃ W, w.alloc (.cells #[.pointer (some ⟨G, 0, none⟩)] 191) = W := ⟨_, rfl⟩
  obtain ⟨B, hBe⟩ : ∃ B, B = w.heap.size := ⟨_, rfl⟩
  have L1 : Below w.heap.size w W1 := by rw [← hW1]; exact (Below.refl _ _).alloc (Nat.le_refl _) _
  have hB1 : W1.cell? ⟨B, 0, none⟩ = some (.pointer (some ⟨G, 0, none⟩)) := by rw [← hW1, hBe]; simp
  have hB0 : W1.cell? ⟨w.heap.size, 0, none⟩ = some (.pointer (some ⟨G, 0, none⟩)) := by rw [← hW1]; simp
  have hBl : B < W1.heap.size := by rw [← hW1, hBe]; simp
  have hGB : G < B := by rw [hBe]; exact hg.five.lt
  have hobs : ∀ g, (Value.slice as1 s.length cs).ownBlock = some g → W0.heap.size ≤ g ∧ g < B := fun g e => by rw [hBe]; exact World.ownsRow.lt hg.sr g e
  have hg1 := hg.next L1
  have HSO := hidP (iSightOf G am al aq cm cl cq ms ls q _ _ x W0 W1 hg1.bel hg1.five hI hW hx)
  have HG1 := hidP hg1
  have HD := hidP hd
  have HOB := hidP hobs
  have HPH := hidP (posA_has hd x)
  have hpl := posA_le (x, ddQ ms q x) s
  clear hg L1 hg1 hI hW hd hx hobs
  go_enter Tryz.func101, Tryz.ntmps101
  go_wp2_with fail
  rw [← hBe]
  refine HSO.out.mono ?_
  rintro e w1 ⟨⟨r, rfl, hr⟩, L1⟩
  clear hW1 hBe hB0
  obtain ⟨la, lc, hIs, hlv⟩ := id hr
  obtain ⟨rt, rv, hre, -, -⟩ := hIs.meth
  subst hre
  have HR := hidP hr
  have HIS := hidP hIs
  have HHO := hidP (iHitOf _ (x, ddQ ms q x) la _ lc w1 hIs)
  have hg1 := HG1.out.next L1
  have hb1 := (L1.cell (p := ⟨B, 0, none⟩) hBl).trans hB1
  have hBl1 := Nat.lt_of_lt_of_le hBl L1.size
  have HG2 := hidP hg1
  clear HG1 HSO L1 hr hIs hlv hB1 hBl
  simp only at HHO
  go_wp2_with fail
  refine HHO.out.mono ?_
  rintro e w2 ⟨rfl, L2⟩
  have hg2 := HG2.out.next L2
  have hb2 := (L2.cell (p := ⟨B, 0, none⟩) hBl1).trans hb1
  have hBl2 := Nat.lt_of_lt_of_le hBl1 L2.size
  clear L2 HHO HG2 hb1 hg1 hBl1
  obtain ⟨W3, hW3⟩ : ∃ W, w2.alloc (.cells #[.int .i64 x, .int .i64 (ddQ ms q x)] 44) = W := ⟨_, rfl⟩
  have L3 : Below w2.heap.size w2 W3 := by rw [← hW3]; exact (Below.refl _ _).alloc (Nat.le_refl _) _
  have hH3 : Two W3 w2.heap.size (.int .i64 x) (.int .i64 (ddQ ms q x)) 44 := by rw [← hW3]; exact Two.new w2 _ _ _
  have hg3 := hg2.next L3
  have hb3 := (L3.cell (p := ⟨B, 0, none⟩) hBl2).trans hb2
  have hBl3 := Nat.lt_of_lt_of_le hBl2 L3.size
  have HSE := hidP (iSearchG B w2.heap.size W0 W3 G cm cl cq cs co am al aq as1 ao ms ls q op s vs (x, ddQ ms q x) hg3 HD.out hb3 hH3 hn)
  obtain ⟨-, -, -, g3, -⟩ := hg3.five.cells
  have HG3 := hidP hg3
  clear L3 hH3 hg3 hg2 hb2 hBl2
  obtain ⟨dx, hdx⟩ : ∃ dx, ddQ ms q x = dx := ⟨_, rfl⟩
  have HDX := hidP hdx
  rw [hdx] at HSE hW3 HPH hpl HIS ⊢
  clear hdx
  obtain ⟨p, hp⟩ : ∃ p, posA (x, dx) s = p := ⟨_, rfl⟩
  have HP := hidP hp
  rw [hp] at HSE HPH hpl
  clear hp
  go_wp2_with fail
  refine HSE.out.mono ?_
  rintro e w4 ⟨rfl, L4⟩
  have hg4 := HG3.out.next L4
  have hb4 := (L4.cell (p := ⟨B, 0, none⟩) hBl3).trans hb3
  have hBl4 := Nat.lt_of_lt_of_le hBl3 L4.size
  clear L4 HSE HG3 hb3 g3 hW3 hBl3
  obtain ⟨-, -, -, g3, -⟩ := hg4.five.cells
  have HG4 := hidP hg4
  by_cases hps : p < s.length
  · obtain ⟨sb, rfl, hsb, hsl, hsc⟩ := own_cell hg4.sr (by rw [hg4.vl]; omega)
    have c0 := hsc p (by rw [hg4.vl]; exact hps)
    obtain ⟨ta, tc, hIt, -⟩ := hg4.sees p hps
    obtain ⟨tt, tv, hsv, hm1, -⟩ := hIt.meth
    rw [hsv] at c0
    have HID := hidP (fun w' => pSpotId (hnth s p).1 ta (cn ls (zIdx ms (hnth s p).1)).length tc w')
    have hp0 : (0 : Int) ≤ (p : Int) := Int.natCast_nonneg _
    have hp1 : (p : Int) < (s.length : Int) := by omega
    clear hsc hIt hsv hg4
    simp only at hm1
    obtain ⟨y, hy⟩ : ∃ y, (hnth s p).1 = y := ⟨_, rfl⟩
    rw [hy] at HID hm1 HPH
    clear hy
    generalize (cn ls (zIdx ms y)).length = yn at *
    by_cases hyx : y = x
    · have hyb : (y == x) = true := by simp [hyx]
      have HV : Hid (hasB (idsH s) x = true) := by show _ = _; rw [HPH.out]; simp [hps, hyx]
      have HS : Hid (seeD (ddQ ms q) s x = s) := by show _ = _; unfold seeD; rw [HV.out]; rfl
      clear hyx HPH
      go_wp2_with fail
      refine (HID.out _).mono ?_
      rintro e w5 ⟨rfl, rfl⟩
      go_wp2_with fail
      go_ret
      exact ⟨ret_bool (by rw [HV.out]; rfl), _, _, _, by rw [HS.out]; exact HG4.out.next ((Below.refl _ _).alloc (Nat.le_refl _) _)⟩
    · have hyb : (y == x) = false := by simp [hyx]
      have HV : Hid (hasB (idsH s) x = false) := by show _ = _; rw [HPH.out]; simp [hyx]
      have HNX := hidP ((hasB_no _ _).1 HV.out)
      clear hyx HPH
      go_wp2_with fail
      refine (HID.out _).mono ?_
      rintro e w5 ⟨rfl, rfl⟩
      obtain ⟨W5, hW5⟩ : ∃ W, w4.alloc (.cells #[.int .i64 y, .slice ta yn tc] 226) = W := ⟨_, rfl⟩
      have L5 : Below w4.heap.size w4 W5 := by rw [← hW5]; exact (Below.refl _ _).alloc (Nat.le_refl _) _
      rw [hW5]
      clear hW5
      have hg5 := HG4.out.next L5
      have hb5 := (L5.cell (p := ⟨B, 0, none⟩) hBl4).trans hb4
      have hBl5 := Nat.lt_of_lt_of_le hBl4 L5.size
      clear L5
      obtain ⟨-, -, -, q3, -⟩ := hg5.five.cells
      have hGl := hg5.five.lt
      obtain ⟨W6, hW6⟩ : ∃ W, W = (W5.alloc (.cells #[.iface rt rv] 193)).drew := ⟨_, rfl⟩
      have L6 : Below W5.heap.size W5 W6 := by rw [hW6]; exact ((Below.refl W5.heap.size W5).alloc (Nat.le_refl _) _).drew
      have V6 : One W6 W5.heap.size (.iface rt rv) 193 := by rw [hW6]; exact (show One (W5.alloc (.cells #[.iface rt rv] 193)) W5.heap.size (.iface rt rv) 193 from One.new W5 _ _)
      have hz6 : W6.heap.size = W5.heap.size + 1 := by rw [hW6]; simp
      have hg6 := hg5.next L6
      have HINS : Hid (Calls Tryz.prog 176 #[.slice (some ⟨sb, 0, none⟩) s.length cs, .int .i64 p, .slice (some ⟨W5.heap.size, 0, none⟩) 1 1] W6 fun e w' => ∃ g G, e = .returned (.slice (some ⟨g, 0, none⟩) (s.length + 1) G) ∧ VRowS W0.heap.size w' g G (vs.take p ++ (Value.iface rt rv) :: vs.drop p) ∧ W6.grownBy w' (Value.slice (some ⟨sb, 0, none⟩) s.length cs).ownBlock ∧ ((Value.slice (some ⟨sb, 0, none⟩) s.length cs).ownBlock = some g ∨ g = W6.heap.size)) := by
        have hvl := hg6.vl
        have hsr := hg6.sr
        rw [← hvl] at hsr
        have h0 := iInsertS W0.heap.size cs p W5.heap.size (some ⟨sb, 0, none⟩) vs (.iface rt rv) W6 hg6.one HIS.out.one hsr V6 (fun e => by rw [hvl] at e; have := (HOB.out _ e).2; omega) (by rw [hvl]; exact hpl) (by rw [hvl]; omega) hg6.bel.size
        rw [hvl] at h0
        exact h0
      have b6 := (L6.cell (p := ⟨B, 0, none⟩) hBl5).trans hb5
      have s6 := (L6.cell (p := ⟨G, 3, none⟩) hGl).trans q3
      have HG6 := hidP hg6
      have hGl6 : G < W6.heap.size := by omega
      have hBl6 : B < W6.heap.size := by omega
      clear L6 V6 hg6 hg5 HG4 hb4 g3 c0
      go_wp2_with fail
      refine wp_region_calm2 (S := fun w' => w'.cell? ⟨B, 0, none⟩ = some (.pointer (some ⟨G, 0, none⟩)) ∧ w'.cell? ⟨G, 3, none⟩ = some (.slice (some ⟨sb, 0, none⟩) s.length cs)) (fuel := 4)
        [0, 1, 2, 3, 4, 5, 6] _ rfl (by kernel_rfl) (by kernel_rfl) (by kernel_rfl) (by kernel_rfl) (by kernel_rfl) (by kernel_rfl) (by kernel_rfl) ⟨hb5, q3⟩ (fun hS => ?_)
      iterate 7
        refine ⟨_, rfl, ?_⟩
        apply Exists.intro
        refine ⟨Or.inl ⟨by rfl, fun w' hw' => ?_⟩, ?_⟩
        · first
          | (go_simp; done)
          | (go_simp; with_reducible rfl)
        simp only [Act.put, List.setIfInBounds_toArray]
      refine calm_one 7 (by kernel_rfl) rfl (fun K hK => ?_)
      go_simp
      rw [← hW6]
      clear hW6
      refine hK.out _ _ ⟨b6, s6⟩ (fun _ => ?_)
      clear hK K
      refine calm_one 8 (by kernel_rfl) rfl (fun K hK => ?_)
      go_simp
      refine HINS.out.mono ?_
      rintro e w7 ⟨g, c7, rfl, hrow7, hgr7, hat7⟩
      have hkeep : ∀ b o, b < W6.heap.size → (∀ g0, (Value.slice (some ⟨sb, 0, none⟩) s.length cs).ownBlock = some g0 → b ≠ g0) → w7.cell? ⟨b, o, none⟩ = W6.cell? ⟨b, o, none⟩ := fun b o hb hne => by
        simp only [World.cell?, hgr7.block b hb (fun e => hne b e.symm rfl)]
      have hB7 := hkeep B 0 hBl6 (fun g0 h0 => by have := (HOB.out g0 h0).2; omega)
      have hG7 := hkeep G 3 hGl6 (fun g0 h0 e => HG6.out.a1 (by rw [e]; exact h0))
      have F7 := HG6.out.five.kept hgr7 (fun e => HG6.out.a1 e.symm)
      have HE := hidP (And.intro hrow7 (And.intro hgr7 hat7))
      refine hK.out _ _ ⟨hB7.trans b6, hG7.trans s6⟩ (fun hS7 => ?_)
      clear hK K hkeep hrow7 hgr7 hat7
      refine calm_one 9 (by kernel_rfl) rfl (fun K hK => ?_)
      go_simp
      refine hK.out _ _ hS7 (fun _ => ?_)
      clear hK K
      refine calm_one 10 (by kernel_rfl) rfl (fun K hK => ?_)
      go_simp
      refine hK.out _ _ hS7 (fun _ => ?_)
      clear hK K
      refine wpAnyH_done (by kernel_rfl) ?_ _
      simp only [Exit.then]
      have f7 := F7.frozen 3
      obtain ⟨-, -, -, r3, -⟩ := F7.cells
      go_wp2_with fail
      refine NoPanic.normal ?_
      obtain ⟨W8, hW8⟩ : ∃ W, W = w7.setCell ⟨G, 3, none⟩ (.slice (some ⟨g, 0, none⟩) (s.length + 1) c7) := ⟨_, rfl⟩
      rw [← hW8]
      have HEND : Hid (∃ vs', Gz W0 W8 G am cm ms al cl ls aq cq q (seeD (ddQ ms q) s x) op (some ⟨g, 0, none⟩) c7 vs' ao co) := HG6.out.put HNX.out (by rw [HDX.out]; exact HP.out.symm) HR.out HE.out.1 HE.out.2.1 HE.out.2.2 hW8
      clear hS7 hB7 hG7 F7 r3 f7 hW8
      simp only [Exit.then]
      go_wp2_with fail
      go_ret
      obtain ⟨vs', hfin⟩ := HEND.out
      exact ⟨ret_bool (by rw [HV.out]; rfl), _, _, vs', hfin⟩
  · have hp1 : ¬ ((p : Int) < (s.length : Int)) := by omega
    have HV : Hid (hasB (idsH s) x = false) := by show _ = _; rw [HPH.out]; simp [hps]
    have HNX := hidP ((hasB_no _ _).1 HV.out)
    obtain ⟨W5, hW5⟩ : ∃ W, W = w4 := ⟨_, rfl⟩
    have L5 : Below w4.heap.size w4 W5 := by rw [hW5]; exact Below.refl _ _
    clear HPH hg4
    rw [← hW5] at g3 ⊢
    clear hW5
    have hg5 := HG4.out.next L5
    have hb5 := (L5.cell (p := ⟨B, 0, none⟩) hBl4).trans hb4
    have hBl5 := Nat.lt_of_lt_of_le hBl4 L5.size
    clear L5
    obtain ⟨-, -, -, q3, -⟩ := hg5.five.cells
    have hGl := hg5.five.lt
    obtain ⟨W6, hW6⟩ : ∃ W, W = (W5.alloc (.cells #[.iface rt rv] 193)).drew := ⟨_, rfl⟩
    have L6 : Below W5.heap.size W5 W6 := by rw [hW6]; exact ((Below.refl W5.heap.size W5).alloc (Nat.le_refl _) _).drew
    have V6 : One W6 W5.heap.size (.iface rt rv) 193 := by rw [hW6]; exact (show One (W5.alloc (.cells #[.iface rt rv] 193)) W5.heap.size (.iface rt rv) 193 from One.new W5 _ _)
    have hz6 : W6.heap.size = W5.heap.size + 1 := by rw [hW6]; simp
    have hg6 := hg5.next L6
    have HINS : Hid (Calls Tryz.prog 176 #[.slice as1 s.length cs, .int .i64 p, .slice (some ⟨W5.heap.size, 0, none⟩) 1 1] W6 fun e w' => ∃ g G, e = .returned (.slice (some ⟨g, 0, none⟩) (s.length + 1) G) ∧ VRowS W0.heap.size w' g G (vs.take p ++ (Value.iface rt rv) :: vs.drop p) ∧ W6.grownBy w' (Value.slice as1 s.length cs).ownBlock ∧ ((Value.slice as1 s.length cs).ownBlock = some g ∨ g = W6.heap.size)) := by
      have hvl := hg6.vl
      have hsr := hg6.sr
      rw [← hvl] at hsr
      have h0 := iInsertS W0.heap.size cs p W5.heap.size as1 vs (.iface rt rv) W6 hg6.one HIS.out.one hsr V6 (fun e => by rw [hvl] at e; have := (HOB.out _ e).2; omega) (by rw [hvl]; exact hpl) (by rw [hvl]; omega) hg6.bel.size
      rw [hvl] at h0
      exact h0
    have b6 := (L6.cell (p := ⟨B, 0, none⟩) hBl5).trans hb5
    have s6 := (L6.cell (p := ⟨G, 3, none⟩) hGl).trans q3
    have HG6 := hidP hg6
    have hGl6 : G < W6.heap.size := by omega
    have hBl6 : B < W6.heap.size := by omega
    clear L6 V6 hg6 hg5 HG4 hb4 g3
    go_wp2_with fail
    refine wp_region_calm2 (S := fun w' => w'.cell? ⟨B, 0, none⟩ = some (.pointer (some ⟨G, 0, none⟩)) ∧ w'.cell? ⟨G, 3, none⟩ = some (.slice as1 s.length cs)) (fuel := 4)
      [0, 1, 2, 3, 4, 5, 6] _ rfl (by kernel_rfl) (by kernel_rfl) (by kernel_rfl) (by kernel_rfl) (by kernel_rfl) (by kernel_rfl) (by kernel_rfl) ⟨hb5, q3⟩ (fun hS => ?_)
    iterate 7
      refine ⟨_, rfl, ?_⟩
      apply Exists.intro
      refine ⟨Or.inl ⟨by rfl, fun w' hw' => ?_⟩, ?_⟩
      · first
        | (go_simp; done)
        | (go_simp; with_reducible rfl)
      simp only [Act.put, List.setIfInBounds_toArray]
    refine calm_one 7 (by kernel_rfl) rfl (fun K hK => ?_)
    go_simp
    rw [← hW6]
    clear hW6
    refine hK.out _ _ ⟨b6, s6⟩ (fun _ => ?_)
    clear hK K
    refine calm_one 8 (by kernel_rfl) rfl (fun K hK => ?_)
    go_simp
    refine HINS.out.mono ?_
    rintro e w7 ⟨g, c7, rfl, hrow7, hgr7, hat7⟩
    have hkeep : ∀ b o, b < W6.heap.size → (∀ g0, (Value.slice as1 s.length cs).ownBlock = some g0 → b ≠ g0) → w7.cell? ⟨b, o, none⟩ = W6.cell? ⟨b, o, none⟩ := fun b o hb hne => by
      simp only [World.cell?, hgr7.block b hb (fun e => hne b e.symm rfl)]
    have hB7 := hkeep B 0 hBl6 (fun g0 h0 => by have := (HOB.out g0 h0).2; omega)
    have hG7 := hkeep G 3 hGl6 (fun g0 h0 e => HG6.out.a1 (by rw [e]; exact h0))
    have F7 := HG6.out.five.kept hgr7 (fun e => HG6.out.a1 e.symm)
    have HE := hidP (And.intro hrow7 (And.intro hgr7 hat7))
    refine hK.out _ _ ⟨hB7.trans b6, hG7.trans s6⟩ (fun hS7 => ?_)
    clear hK K hkeep hrow7 hgr7 hat7
    refine calm_one 9 (by kernel_rfl) rfl (fun K hK => ?_)
    go_simp
    refine hK.out _ _ hS7 (fun _ => ?_)
    clear hK K
    refine calm_one 10 (by kernel_rfl) rfl (fun K hK => ?_)
    go_simp
    refine hK.out _ _ hS7 (fun _ => ?_)
    clear hK K
    refine wpAnyH_done (by kernel_rfl) ?_ _
    simp only [Exit.then]
    have f7 := F7.frozen 3
    obtain ⟨-, -, -, r3, -⟩ := F7.cells
    go_wp2_with fail
    refine NoPanic.normal ?_
    obtain ⟨W8, hW8⟩ : ∃ W, W = w7.setCell ⟨G, 3, none⟩ (.slice (some ⟨g, 0, none⟩) (s.length + 1) c7) := ⟨_, rfl⟩
    rw [← hW8]
    have HEND : Hid (∃ vs', Gz W0 W8 G am cm ms al cl ls aq cq q (seeD (ddQ ms q) s x) op (some ⟨g, 0, none⟩) c7 vs' ao co) := HG6.out.put HNX.out (by rw [HDX.out]; exact HP.out.symm) HR.out HE.out.1 HE.out.2.1 HE.out.2.2 hW8
    clear hS7 hB7 hG7 F7 r3 f7 hW8
    simp only [Exit.then]
    go_wp2_with fail
    go_ret
    obtain ⟨vs', hfin⟩ := HEND.out
    exact ⟨ret_bool (by rw [HV.out]; rfl), _, _, vs', hfin⟩
end Go.Proofs.YtfbhohpbhjlihaaGreat
namespace Go.Proofs.YtfbhohpbhjlihaaGreat
open Go Go.RowKit

theorem own_viewN {base : Nat} {w : World} {a : Option Addr} {m c : Nat} {l : List Int} (h : w.ownsRow base 2 1 (.slice a m c) l.length (numC l)) : View w a l := by
  by_cases h0 : l.length = 0
  · exact Or.inl (List.length_eq_zero_iff.1 h0)
  · obtain ⟨g, e, hb, hl, hc⟩ := own_cell h (by rw [numC_len]; omega)
    refine Or.inr ⟨g, 0, e, hl, fun k hk => ?_⟩
    rw [Nat.zero_add, hc k (by rw [numC_len]; exact hk)]
    simp [numC, nth, List.getD, hk]
theorem own_cap {base e n : Nat} {w : World} {a : Option Addr} {m c : Nat} {xs : List Value} (h : w.ownsRow base e 1 (.slice a m c) n xs) : n ≤ c := by
  obtain ⟨h1, h2⟩ := h
  rcases h2 with ⟨e1, e2⟩ | ⟨g, cp, cur, e1, hb, hg, hnc, hcm, hsz, htk⟩
  · omega
  · injection e1 with e1 e2 e3
    omega

set_option maxRecDepth 100000 in
set_option maxHeartbeats 1000000 in
theorem iFirstG (W0 w : World) (G cm cl cq cs co : Nat) (am al aq as1 ao : Option Addr) (ms : List Mk) (ls : List (List Int)) (q op : List Int) (s : List Ht) (vs : List Value) (wd : Nat) (hg : Gz W0 w G am cm ms al cl ls aq cq q s op as1 cs vs ao co) (h0 : 0 < s.length) :
    Calls Tryz.prog 188 #[.pointer (some ⟨G, 0, none⟩), .int .i64 wd] w fun e w' => e = .returned (.slice as1 (min s.length wd) cs) ∧ Below w.heap.size w w' := by
  obtain ⟨-, -, -, g3, -⟩ := hg.five.cells
  have hcap := own_cap hg.sr
  obtain ⟨sb, rfl, -, -, -⟩ := own_cell hg.sr (by rw [hg.vl]; omega)
  obtain ⟨m, hm⟩ : ∃ m, min s.length wd = m := ⟨_, rfl⟩
  have hmi : min (wd : Int) (s.length : Int) = (m : Int) := by omega
  have hmc : m ≤ cs := by omega
  have hmc2 : (m : Int) ≤ (cs : Int) := by omega
  have hm0 : (0 : Int) ≤ (m : Int) := by omega
  rw [hm]
  clear hg hm
  go_enter Tryz.func188, Tryz.ntmps188
  go_wp2_with fail
  go_region_held3 (fun w' => w'.cell? ⟨G, 3, none⟩ = some (.slice (some ⟨sb, 0, none⟩) s.length cs)) (first | go_keep) (fail)
  simp only [Exit.then]
  go_wp2_with fail
  go_ret
  exact ⟨rfl, (Below.refl _ _).drew⟩

set_option maxRecDepth 100000 in
set_option maxHeartbeats 1000000 in
theorem iClosedFn (B : Nat) (W0 w : World) (G cm cl cq cs co : Nat) (am al aq as1 ao : Option Addr) (ms : List Mk) (ls : List (List Int)) (q op : List Int) (s : List Ht) (vs : List Value) (i : Nat) (hg : Gz W0 w G am cm ms al cl ls aq cq q s op as1 cs vs ao co) (hB : w.cell? ⟨B, 0, none⟩ = some (.pointer (some ⟨G, 0, none⟩))) (hi : i < s.length) (ho : op.length ≤ 60) :
    Calls Tryz.prog 226 #[vs.getD i .nilIface, .pointer (some ⟨B, 0, none⟩)] w fun e w' => e = .returned (.bool (!hasB op (hnth s i).1)) ∧ Below w.heap.size w w' := by
  obtain ⟨ta, tc, hIt, -⟩ := hg.sees i hi
  obtain ⟨tt, tv, hsv, hm1, -⟩ := hIt.meth
  rw [hsv]
  simp only at hm1
  have HID := hidP (fun w' => pSpotId (hnth s i).1 ta (cn ls (zIdx ms (hnth s i).1)).length tc w')
  have HHA : Hid (∀ w', Below w.heap.size w w' → Calls Tryz.prog 221 #[.slice ao op.length co, .int .i64 (hnth s i).1] w' fun e w'' => e = .returned (.bool (hasB op (hnth s i).1)) ∧ w'' = w') := fun w' L => pHas ao co op _ w' (own_viewN (hg.next L).opr) (by omega)
  obtain ⟨-, -, -, -, g4⟩ := hg.five.cells
  have hGl := hg.five.lt
  have hBl : B < w.heap.size := cell_lt hB
  clear hIt hsv hg
  generalize (cn ls (zIdx ms (hnth s i).1)).length = yn at *
  generalize (hnth s i).1 = y at *
  have HK : Hid (∀ w', Below w.heap.size w w' → w'.cell? ⟨B, 0, none⟩ = some (.pointer (some ⟨G, 0, none⟩)) ∧ w'.cell? ⟨G, 4, none⟩ = some (.slice ao op.length co)) := fun w' L => ⟨(L.cell (p := ⟨B, 0, none⟩) hBl).trans hB, (L.cell (p := ⟨G, 4, none⟩) hGl).trans g4⟩
  go_enter Tryz.func226, Tryz.ntmps226
  go_wp2_with fail
  go_region_held3 (fun w' => w'.cell? ⟨B, 0, none⟩ = some (.pointer (some ⟨G, 0, none⟩)) ∧ w'.cell? ⟨G, 4, none⟩ = some (.slice ao op.length co))
    (first
      | go_keep
      | exact HK.out _ (((Below.refl w.heap.size w).drew).alloc (Nat.le_refl _) _))
    (first
      | (go_at_call 300; refine (HID.out _).mono ?_; rintro e w2 ⟨rfl, rfl⟩)
      | (go_at_call 221; refine (HHA.out _ (((Below.refl w.heap.size w).drew).alloc (Nat.le_refl _) _)).mono ?_; rintro e w3 ⟨rfl, rfl⟩))
  simp only [Exit.then]
  go_wp2_with fail
  go_ret
  exact ⟨rfl, ((Below.refl w.heap.size w).drew).alloc (Nat.le_refl _) _⟩

set_option maxRecDepth 100000 in
set_option maxHeartbeats 1000000 in
theorem iIndexG (B : Nat) (W0 w : World) (G cm cl cq cs co : Nat) (am al aq as1 ao : Option Addr) (ms : List Mk) (ls : List (List Int)) (q op : List Int) (s : List Ht) (vs : List Value) (m : Nat) (hg : Gz W0 w G am cm ms al cl ls aq cq q s op as1 cs vs ao co) (hB : w.cell? ⟨B, 0, none⟩ = some (.pointer (some ⟨G, 0, none⟩))) (hm : m ≤ s.length) (hn : s.length ≤ 60) (ho : op.length ≤ 60) :
    Calls Tryz.prog 225 #[.slice as1 m cs, .func (Fn.func 226) #[] #[.pointer (some ⟨B, 0, none⟩)]] w fun e w' => e = .returned (.int .i64 (outTo s op m)) ∧ Below w.heap.size w w' := by
  have hBl : B < w.heap.size := cell_lt hB
  have HF : Hid (∀ W i, Below w.heap.size w W → i < s.length → Calls Tryz.prog 226 #[vs.getD i .nilIface, .pointer (some ⟨B, 0, none⟩)] W fun e w' => e = .returned (.bool (!hasB op (hnth s i).1)) ∧ Below W.heap.size W w') := fun W i L hi =>
    iClosedFn B W0 W G cm cl cq cs co am al aq as1 ao ms ls q op s vs i (hg.next L) ((L.cell (p := ⟨B, 0, none⟩) hBl).trans hB) hi ho
  have HC : Hid (0 < s.length → ∃ sb, as1 = some ⟨sb, 0, none⟩ ∧ sb < w.heap.size ∧ ∀ k, k < s.length → w.cell? ⟨sb, k, none⟩ = some (vs.getD k .nilIface)) := fun h0 => by
    obtain ⟨sb, e, -, h1, h2⟩ := own_cell hg.sr (by rw [hg.vl]; exact h0)
    exact ⟨sb, e, h1, fun k hk => h2 k (by rw [hg.vl]; exact hk)⟩
  clear hB hg
  go_enter Tryz.func225, Tryz.ntmps225
  go_wp2_with fail
  go_loopw [8] (fun i wr => ∃ k : Nat, k ≤ m ∧ i = .int .i64 k ∧ outTo s op k < 0 ∧ Below w.heap.size w wr) (fun i _ => m - (intOf i).toNat)
  case atStart => exact ⟨0, Nat.zero_le _, rfl, by simp [outTo], Below.refl _ _⟩
  case round =>
    obtain ⟨k, hk, rfl, hout, L⟩ := hrel
    by_cases hlt : k < m
    · obtain ⟨sb, rfl, hsl, hsc⟩ := HC.out (by omega)
      have c0 := (L.cell (p := ⟨sb, k, none⟩) hsl).trans (hsc k (by omega))
      have HN := hidP (HF.out wr k L (by omega))
      have HL := hidP L
      have HO := hidP hout
      have hk0 : (0 : Int) ≤ (k : Int) := Int.natCast_nonneg _
      have hk1 : (k : Int) < (m : Int) := by omega
      clear L hsc hout
      generalize vs.getD k .nilIface = sv at *
      rcases he : hasB op (hnth s k).1 with _ | _
      · have HX : Hid (outTo s op m = (k : Int)) := by
          show _ = _
          have h1 : outTo s op (k + 1) = (k : Int) := by
            have := HO.out
            simp only [outTo]
            rw [if_neg (by omega), if_neg (by rw [he]; simp)]
          rw [outTo_stay (n := k + 1) (m := m) (by omega) (by omega), h1]
        rw [he] at HN
        clear he
        go_wp2_with fail
        refine HN.out.mono ?_
        rintro e w2 ⟨rfl, L2⟩
        have HL2 := hidP (chain HL.out L2)
        clear L2
        go_wp2_with fail
        go_ret
        exact ⟨ret_int HX.out.symm, HL2.out⟩
      · have HX : Hid (outTo s op (k + 1) < 0) := by
          show _ < _
          have := HO.out
          simp only [outTo]
          rw [if_neg (by omega), if_pos he]
          omega
        rw [he] at HN
        clear he
        go_wp2_with fail
        refine HN.out.mono ?_
        rintro e w2 ⟨rfl, L2⟩
        have HL2 := hidP (chain HL.out L2)
        clear L2
        go_wp2_with fail
        go_roundw
        case rel => exact ⟨k + 1, by omega, by go_num, HX.out, HL2.out⟩
        case measure => simp [intOf]; omega
    · obtain rfl : k = m := by omega
      have HX : Hid (outTo s op k = -1) := by
        show _ = _
        have := (outTo_ok s op k).1
        omega
      have HL := hidP L
      clear L hout
      go_wp2_with fail
      go_ret
      exact ⟨ret_int HX.out.symm, HL.out⟩

set_option maxRecDepth 100000 in
set_option maxHeartbeats 1000000 in
theorem iClosed (W0 w : World) (G cm cl cq cs co : Nat) (am al aq as1 ao : Option Addr) (ms : List Mk) (ls : List (List Int)) (q op : List Int) (s : List Ht) (vs : List Value) (wd : Nat) (hg : Gz W0 w G am cm ms al cl ls aq cq q s op as1 cs vs ao co) (h0 : 0 < s.length) (hn : s.length ≤ 60) (ho : op.length ≤ 60) :
    Calls Tryz.prog 177 #[.pointer (some ⟨G, 0, none⟩), .int .i64 wd] w fun e w' => e = .returned (.int .i64 (outTo s op (min s.length wd))) ∧ Below w.heap.size w w' := by
  obtain ⟨W1, hW1⟩ : ∃ W, w.alloc (.cells #[.pointer (some ⟨G, 0, none⟩)] 191) = W := ⟨_, rfl⟩
  have L1 : Below w.heap.size w W1 := by rw [← hW1]; exact (Below.refl _ _).alloc (Nat.le_refl _) _
  have hB0 : W1.cell? ⟨w.heap.size, 0, none⟩ = some (.pointer (some ⟨G, 0, none⟩)) := by rw [← hW1]; simp
  have hBl : w.heap.size < W1.heap.size := by rw [← hW1]; simp
  have HFI := hidP (iFirstG W0 W1 G cm cl cq cs co am al aq as1 ao ms ls q op s vs wd (hg.next L1) h0)
  have HG := hidP (hg.next L1)
  have HL := hidP L1
  clear hg L1
  go_enter Tryz.func177, Tryz.ntmps177
  go_wp2_with fail
  refine HFI.out.mono ?_
  rintro e w2 ⟨rfl, L2⟩
  have HIX := hidP (iIndexG w.heap.size W0 w2 G cm cl cq cs co am al aq as1 ao ms ls q op s vs (min s.length wd) (HG.out.next L2) ((L2.cell (p := ⟨w.heap.size, 0, none⟩) hBl).trans hB0) (by omega) hn ho)
  have HL2 := hidP (chain HL.out L2)
  clear L2 hB0 hW1
  go_wp2_with fail
  refine HIX.out.mono ?_
  rintro e w3 ⟨rfl, L3⟩
  have HL3 := hidP (chain HL2.out L3)
  clear L3
  go_wp2_with fail
  go_ret
  exact ⟨rfl, HL3.out⟩
end Go.Proofs.YtfbhohpbhjlihaaGreat
namespace Go.Proofs.YtfbhohpbhjlihaaGreat
open Go Go.RowKit

theorem info_num : (Tryz.prog.info? 2).map (fun i => (i.zero, i.size, i.bytes)) = some (some (.int .i64 0), 1, 8) := by kernel_rfl
/-- One more is opened. -/
theorem Gz.opens {W0 w w7 w8 : World} {G cm cl cq cs co : Nat} {am al aq as1 ao : Option Addr} {ms : List Mk} {ls : List (List Int)} {q op : List Int} {s : List Ht} {vs : List Value} {x : Int} {g c7 : Nat} (h : Gz W0 w G am cm ms al cl ls aq cq q s op as1 cs vs ao co) (hrow : w7.ownsRow W0.heap.size 2 1 (.slice (some ⟨g, 0, none⟩) (op.length + 1) c7) (op.length + 1) (numC op ++ [.int .i64 x])) (hgr : w.grownBy w7 (Value.slice ao op.length co).ownBlock) (hat : (Value.slice ao op.length co).ownBlock = some g ∨ g = w.heap.size) (h8 : w8 = w7.setCell ⟨G, 4, none⟩ (.slice (some ⟨g, 0, none⟩) (op.length + 1) c7)) :
    Gz W0 w8 G am cm ms al cl ls aq cq q s (op ++ [x]) as1 cs vs (some ⟨g, 0, none⟩) c7 := by
  have hlen : (op ++ [x]).length = op.length + 1 := by simp
  have hGl := h.five.lt
  have hsb := World.ownsRow.lt h.sr
  have hob := World.ownsRow.lt h.opr
  have hgG : g ≠ G := by
    rcases hat with e | e
    · intro e2; rw [e2] at e; exact h.a2 e
    · omega
  have F7 : Fiv w7 G (.slice am ms.length cm) (.slice al ls.length cl) (.slice aq q.length cq) (.slice as1 s.length cs) (.slice ao op.length co) 123 := h.five.kept hgr (fun e => h.a2 e.symm)
  have hg8 : w7.grownBy w8 (some G) := by rw [h8]; exact grown_setCell w7 G 4 _
  have S7 : w7.ownsRow W0.heap.size 193 1 (.slice as1 s.length cs) s.length vs := World.ownsRow.kept h.sr hgr (by
    cases he : (Value.slice as1 s.length cs).ownBlock with
    | none => exact Or.inl rfl
    | some b => exact Or.inr fun e => h.a3 b he e.symm)
  refine ⟨?_, h.low, World.ownsRow.kept S7 hg8 (Or.inr h.a1), h.vl, h.sees, ?_, h.a1, ?_, fun g' e => ?_, ?_⟩
  · rw [hlen, h8]; exact F7.set4 _
  · rw [hlen]
    have e1 := World.ownsRow.kept hrow hg8 (Or.inr fun e => by
      have e' : some g = some G := e
      injection e' with e'
      exact hgG e')
    rw [show numC (op ++ [x]) = numC op ++ [.int .i64 x] by simp [numC]]
    exact e1
  · intro e
    have e' : some g = some G := e
    injection e' with e'
    exact hgG e'
  · intro e2
    have e' : some g = some g' := e2
    injection e' with e'
    subst e'
    rcases hat with e3 | e3
    · exact h.a3 g e e3
    · have := (hsb g e).2
      omega
  · exact (h.bel.grown hgr (by have := h.bel.size; omega) (fun k hk => (hob k hk).1)).grown hg8 (by have := h.bel.size; have := hgr.size; omega) (fun k hk => by cases hk; exact h.low)

set_option maxRecDepth 100000 in
set_option maxHeartbeats 4000000 in
theorem iOpen (W0 w : World) (G cm cl cq cs co : Nat) (am al aq as1 ao : Option Addr) (ms : List Mk) (ls : List (List Int)) (q op : List Int) (s : List Ht) (vs : List Value) (i : Nat) (hg : Gz W0 w G am cm ms al cl ls aq cq q s op as1 cs vs ao co) (hI : LkIn W0 am ms al ls aq q) (hW : LkWeb ms ls q) (hd : LookD (ddQ ms q) s) (hf : ∀ y ∈ idsH s, 0 ≤ zFind ms y) (hi : i < s.length) (ho : op.length ≤ 60) :
    Calls Tryz.prog 178 #[.pointer (some ⟨G, 0, none⟩), vs.getD i .nilIface] w fun e w' => e = .returned (.tuple #[]) ∧ ∃ as2 cs2 vs2 ao2 co2, Gz W0 w' G am cm ms al cl ls aq cq q (seesD (ddQ ms q) s (cn ls (zIdx ms (hnth s i).1))) (op ++ [(hnth s i).1]) as2 cs2 vs2 ao2 co2 := by
  obtain ⟨ta, tc, hIt, htv⟩ := hg.sees i hi
  obtain ⟨tt, tv, hsv, hm1, hm2⟩ := hIt.meth
  rw [hsv]
  simp only at hm1 hm2
  have HID := hidP (fun w' => pSpotId (hnth s i).1 ta (cn ls (zIdx ms (hnth s i).1)).length tc w')
  have HLI := hidP (fun w' => pSpotLinks (hnth s i).1 ta (cn ls (zIdx ms (hnth s i).1)).length tc w')
  have hx0 := hf _ (idsH_nth hi)
  have hxi := zIdx_lt hx0
  have hm60 := marksB_len (web_marks hW.web)
  have hll := links_short hW.web hxi.1
  have HLF : Hid (∀ k, k < (cn ls (zIdx ms (hnth s i).1)).length → 0 ≤ zFind ms (nth (cn ls (zIdx ms (hnth s i).1)) k)) := fun k hk => (web_link hW.web hxi.1 ((hasB_iff _ _).1 (hasB_nth hk))).1
  have HSN : Hid (∀ l : List Int, (∀ y ∈ l, y ∈ cn ls (zIdx ms (hnth s i).1)) → LookD (ddQ ms q) (seesD (ddQ ms q) s l) ∧ (seesD (ddQ ms q) s l).length ≤ 60) := fun l hl => by
    obtain ⟨h1, h2⟩ := seesD_ok hd l
    refine ⟨h1, ?_⟩
    have := ids_short (ms := ms) h1.nd (fun y hy => by
      rcases (h2 y).1 hy with e | e
      · exact (web_link hW.web hxi.1 (hl y e)).1
      · exact hf y e)
    rw [idsH_len] at this
    omega
  have HTV := hidP htv
  have HI := hidP hI
  have HW := hidP hW
  obtain ⟨-, -, -, -, g4⟩ := hg.five.cells
  have hGl := hg.five.lt
  have HG := hidP hg
  have hobs : ∀ g, (Value.slice ao op.length co).ownBlock = some g → W0.heap.size ≤ g ∧ g < w.heap.size := World.ownsRow.lt hg.opr
  have HOB := hidP hobs
  obtain ⟨i0, hi0, hz0, hz1, hz2⟩ := info_parts info_num
  clear hIt hsv hg hI hW hd hf hx0 hxi htv hobs
  generalize hxx : (hnth s i).1 = x at *
  clear hxx
  generalize hlx : cn ls (zIdx ms x) = l at *
  clear hlx
  obtain ⟨W1, hW1⟩ : ∃ W, (w.drew.alloc (.cells #[.int .i64 x, .slice ta l.length tc] 226)) = W := ⟨_, rfl⟩
  have L1 : Below w.heap.size w W1 := by rw [← hW1]; exact ((Below.refl w.heap.size w).drew).alloc (Nat.le_refl _) _
  have hz1w : W1.heap.size = w.heap.size + 1 := by rw [← hW1]; simp
  obtain ⟨W2, hW2⟩ : ∃ W, W1.alloc (.cells #[.int .i64 x] 2) = W := ⟨_, rfl⟩
  have L2 : Below W1.heap.size W1 W2 := by rw [← hW2]; exact (Below.refl _ _).alloc (Nat.le_refl _) _
  have V2 : W2.heap[W1.heap.size]? = some (.cells #[.int .i64 x] 2 (0, 0)) := by rw [← hW2]; exact heap_alloc_new W1 _
  have hz2w : W2.heap.size = W1.heap.size + 1 := by rw [← hW2]; simp
  rw [hz1w] at V2
  have L12 := chain L1 L2
  have hg2 := HG.out.next L12
  have HG2 := hidP hg2
  have HO2 := hidP hg2.opr
  have k1 := (L1.cell (p := ⟨G, 4, none⟩) hGl).trans g4
  have k2 := (L12.cell (p := ⟨G, 4, none⟩) hGl).trans g4
  have hGl2 : G < W2.heap.size := by omega
  have HB2 := hidP hg2.bel.size
  clear L1 L2 L12 hg2
  go_enter Tryz.func178, Tryz.ntmps178
  go_wp2_with fail
  refine wp_region_calm2 (S := fun w' => w'.cell? ⟨G, 4, none⟩ = some (.slice ao op.length co)) (fuel := 5)
    [0, 1, 2, 3, 4, 5] _ rfl (by kernel_rfl) (by kernel_rfl) (by kernel_rfl) (by kernel_rfl) (by kernel_rfl) (by kernel_rfl) (by kernel_rfl) g4 (fun hS => ?_)
  iterate 6
    refine ⟨_, rfl, ?_⟩
    apply Exists.intro
    refine ⟨Or.inl ⟨by rfl, fun w' hw' => ?_⟩, ?_⟩
    · first
      | (go_simp; done)
      | (go_simp; with_reducible rfl)
    simp only [Act.put, List.setIfInBounds_toArray]
  refine calm_one 6 (by kernel_rfl) rfl (fun K hK => ?_)
  go_simp
  refine (HID.out _).mono ?_
  rintro e w5 ⟨rfl, rfl⟩
  rw [hW1]
  clear hW1
  refine hK.out _ _ k1 (fun _ => ?_)
  clear hK K
  refine calm_one 7 (by kernel_rfl) rfl (fun K hK => ?_)
  go_simp
  clear hW2
  refine hK.out _ _ k2 (fun _ => ?_)
  clear hK K
  refine calm_one 8 (by kernel_rfl) rfl (fun K hK => ?_)
  refine step_append_lies _ (by rfl) _ _ _ (by rfl) W0.heap.size 2 i0 _ 1 8 Tryz.underlying28 hi0 hz0 hz1 hz2 rfl (by omega) (.slice ao op.length co) op.length (numC op) (by rfl) HO2.out ⟨w.heap.size + 1, 0, none⟩ 1 1 [.int .i64 x] (by rfl) (by rfl) (World.news_of_block (cs := #[.int .i64 x]) (t := 2) (fr := (0, 0)) V2) (by simp [Value.oneCell']) (by omega) (by unfold maxLen; omega) (by omega) HB2.out W2.heap.size rfl ?_
  intro g c7 w7 hrow7 hgr7 hat7 hlt7
  have hG7 : w7.cell? ⟨G, 4, none⟩ = some (.slice ao op.length co) := by
    have := hgr7.block G hGl2 (fun e => HG2.out.a2 e.symm)
    simp only [World.cell?, this]
    exact k2
  have F7 := HG2.out.five.kept hgr7 (fun e => HG2.out.a2 e.symm)
  have HE := hidP (And.intro hrow7 (And.intro hgr7 hat7))
  refine hK.out _ _ hG7 (fun hS7 => ?_)
  clear hK K hrow7 hgr7 hat7
  refine calm_one 9 (by kernel_rfl) rfl (fun K hK => ?_)
  go_simp
  refine hK.out _ _ hS7 (fun _ => ?_)
  clear hK K
  refine calm_one 10 (by kernel_rfl) rfl (fun K hK => ?_)
  go_simp
  refine hK.out _ _ hS7 (fun _ => ?_)
  clear hK K
  refine wpAnyH_done (by kernel_rfl) ?_ _
  simp only [Exit.then]
  have f7 := F7.frozen 4
  obtain ⟨-, -, -, -, r4⟩ := F7.cells
  clear hS7 hG7 k1 k2 g4 hS
  go_wp2_with fail
  refine NoPanic.normal ?_
  obtain ⟨W8, hW8⟩ : ∃ W, W = w7.setCell ⟨G, 4, none⟩ (.slice (some ⟨g, 0, none⟩) (op.length + 1) c7) := ⟨_, rfl⟩
  rw [← hW8]
  have HG8 : Hid (Gz W0 W8 G am cm ms al cl ls aq cq q s (op ++ [x]) as1 cs vs (some ⟨g, 0, none⟩) c7) := HG2.out.opens HE.out.1 HE.out.2.1 HE.out.2.2 hW8
  clear F7 r4 f7 hW8 HE HG2 HG HO2
  simp only [Exit.then]
  go_wp2_with fail
  refine (HLI.out _).mono ?_
  rintro e w9 ⟨rfl, rfl⟩
  obtain ⟨W9, hW9⟩ : ∃ W, W8.alloc (.cells #[.int .i64 x, .slice ta l.length tc] 226) = W := ⟨_, rfl⟩
  have HG9 : Hid (Gz W0 W9 G am cm ms al cl ls aq cq q s (op ++ [x]) as1 cs vs (some ⟨g, 0, none⟩) c7) := HG8.out.next (by rw [← hW9]; exact (Below.refl _ _).alloc (Nat.le_refl _) _)
  rw [hW9]
  clear hW9 HG8
  go_wp2_with fail
  go_loopw [20] (fun i wr => ∃ (k : Nat) (as2 : Option Addr) (cs2 : Nat) (vs2 : List Value), k ≤ l.length ∧ i = .int .i64 k ∧ Gz W0 wr G am cm ms al cl ls aq cq q (seesD (ddQ ms q) s (l.take k)) (op ++ [x]) as2 cs2 vs2 (some ⟨g, 0, none⟩) c7) (fun i _ => l.length - (intOf i).toNat)
  case atStart => exact ⟨0, as1, cs, vs, Nat.zero_le _, rfl, HG9.out⟩
  case round =>
    obtain ⟨k, as2, cs2, vs2, hk, rfl, hgk⟩ := hrel
    by_cases hlt : k < l.length
    · have hvk := HTV.out.next hgk.bel
      obtain ⟨b, off, rfl, hb, hs⟩ : ∃ b off, ta = some ⟨b, off, none⟩ ∧ b < wr.heap.size ∧ Seg wr b off l := by
        rcases hvk with h | h
        · rw [h] at hlt; simp at hlt
        · exact h
      have hc := hs k hlt
      have hk0 : (0 : Int) ≤ (k : Int) := Int.natCast_nonneg _
      have hk1 : (k : Int) < (l.length : Int) := by omega
      obtain ⟨j1, j2⟩ := HSN.out (l.take k) (fun y hy => List.mem_of_mem_take hy)
      have HS := hidP (iSee W0 wr G cm cl cq cs2 c7 am al aq as2 _ ms ls q (op ++ [x]) _ vs2 (nth l k) hgk HI.out HW.out j1 (HLF.out k hlt) j2)
      have HTK := hidP (seesD_take (ddQ ms q) s l hlt)
      clear hs hvk hgk j1 j2
      generalize nth l k = y at *
      go_wp2_with fail
      refine HS.out.mono ?_
      rintro e w10 ⟨rfl, as3, cs3, vs3, hg3⟩
      rw [← HTK.out] at hg3
      have HG3 := hidP hg3
      clear hg3
      go_wp2_with fail
      go_roundw
      case rel => exact ⟨k + 1, as3, cs3, vs3, by omega, by go_num, HG3.out⟩
      case measure => simp [intOf]; omega
    · obtain rfl : k = l.length := by omega
      rw [List.take_length] at hgk
      have HGK := hidP hgk
      clear hgk
      go_wp2_with fail
      exact bodyPost_end (v := .tuple #[]) (by simp [results, Tryz.results178, go_sem]) rfl ⟨rfl, as2, cs2, vs2, _, _, HGK.out⟩
end Go.Proofs.YtfbhohpbhjlihaaGreat
namespace Go.Proofs.YtfbhohpbhjlihaaGreat
open Go Go.RowKit

set_option maxRecDepth 100000 in
set_option maxHeartbeats 2000000 in
theorem iOpenFirst (W0 w : World) (G cm cl cq cs co : Nat) (am al aq as1 ao : Option Addr) (ms : List Mk) (ls : List (List Int)) (q op : List Int) (s : List Ht) (vs : List Value) (wd : Nat) (hg : Gz W0 w G am cm ms al cl ls aq cq q s op as1 cs vs ao co) (hI : LkIn W0 am ms al ls aq q) (hW : LkWeb ms ls q) (hok : LkOk ms ls (ddQ ms q) s op) (h0 : 0 < s.length) :
    Calls Tryz.prog 102 #[.pointer (some ⟨G, 0, none⟩), .int .i64 wd] w fun e w' => e = .returned (.tuple #[]) ∧ ∃ s2 op2, LkTo ms ls (ddQ ms q) wd s op s2 op2 ∧ outTo s2 op2 (min s2.length wd) < 0 ∧ ∃ as2 cs2 vs2 ao2 co2, Gz W0 w' G am cm ms al cl ls aq cq q s2 op2 as2 cs2 vs2 ao2 co2 := by
  have hm60 := marksB_len (web_marks hW.web)
  have HOK : Hid (∀ s1 op1, LkTo ms ls (ddQ ms q) wd s op s1 op1 → LkOk ms ls (ddQ ms q) s1 op1 ∧ 0 < s1.length ∧ s1.length ≤ 60 ∧ op1.length ≤ 60) := fun s1 op1 ht => by
    have h1 := ht.ok hW.web hok
    have h2 := h1.short
    have h3 := h1.shortO
    refine ⟨h1, ?_, by omega, by omega⟩
    have key : ∀ s1 op1, LkTo ms ls (ddQ ms q) wd s op s1 op1 → 0 < s1.length := by
      intro s1 op1 ht
      induction ht with
      | refl => exact h0
      | @step s op h1 h2 ih =>
        obtain ⟨-, hmem⟩ := seesD_ok (h1.ok hW.web hok).look (cn ls (zIdx ms (nextI s op wd)))
        have hin := (hmem (nextI s op wd)).2 (Or.inr (next_ok h2).2.1)
        obtain ⟨k, hk, -⟩ := idsH_at hin
        omega
    exact key s1 op1 ht
  have hlen0 := HOK.out s op LkTo.refl
  have HC0 := hidP (iClosed W0 w G cm cl cq cs co am al aq as1 ao ms ls q op s vs wd hg h0 hlen0.2.2.1 hlen0.2.2.2)
  have HG := hidP hg
  have HI := hidP hI
  have HW := hidP hW
  clear hg hI hW hok hlen0 h0
  go_enter Tryz.func102, Tryz.ntmps102
  go_wp2_with fail
  refine HC0.out.mono ?_
  rintro e w1 ⟨rfl, L1⟩
  have HG1 := hidP (HG.out.next L1)
  clear L1 HG HC0
  go_wp2_with fail
  go_loopg [4] (ms.length - op.length) (fun gk t4 wr => ∃ (s1 : List Ht) (op1 : List Int) (as2 : Option Addr) (cs2 : Nat) (vs2 : List Value) (ao2 : Option Addr) (co2 : Nat), t4 = .int .i64 (outTo s1 op1 (min s1.length wd)) ∧ ms.length - op1.length ≤ gk ∧ LkTo ms ls (ddQ ms q) wd s op s1 op1 ∧ Gz W0 wr G am cm ms al cl ls aq cq q s1 op1 as2 cs2 vs2 ao2 co2)
  case atStart => exact ⟨s, op, as1, cs, vs, ao, co, rfl, Nat.le_refl _, LkTo.refl, HG1.out⟩
  case round =>
    obtain ⟨s1, op1, as2, cs2, vs2, ao2, co2, rfl, hgk, hto, hg2⟩ := hrel
    obtain ⟨hok1, h01, hn1, ho1⟩ := HOK.out s1 op1 hto
    by_cases hlt : 0 ≤ outTo s1 op1 (min s1.length wd)
    · obtain ⟨n1, n2, n3⟩ := next_ok hlt
      have hroom := hok1.room n2 n3
      have HTO2 := hidP (hto.step hlt)
      have HNX : Hid (nextI s1 op1 wd = (hnth s1 (outTo s1 op1 (min s1.length wd)).toNat).1) := rfl
      obtain ⟨sb, rfl, -, hsl, hsc⟩ := own_cell hg2.sr (by rw [hg2.vl]; omega)
      obtain ⟨j, hj⟩ : ∃ j : Nat, outTo s1 op1 (min s1.length wd) = (j : Int) := ⟨(outTo s1 op1 (min s1.length wd)).toNat, by omega⟩
      rw [hj] at n1 HNX ⊢
      rw [Int.toNat_natCast] at n1 HNX
      have c0 := hsc j (by rw [hg2.vl]; exact n1)
      obtain ⟨-, -, -, g3, -⟩ := hg2.five.cells
      have HOP := hidP (iOpen W0 wr G cm cl cq cs2 co2 am al aq _ ao2 ms ls q op1 s1 vs2 j hg2 HI.out HW.out hok1.look hok1.find n1 ho1)
      rw [← HNX.out] at HOP
      have hj0 : (0 : Int) ≤ (j : Int) := Int.natCast_nonneg _
      have hj1 : (j : Int) < (s1.length : Int) := by omega
      have HGK : Hid (ms.length - (op1 ++ [nextI s1 op1 wd]).length < gk ∧ ms.length - (op1 ++ [nextI s1 op1 wd]).length ≤ ms.length - (op1 ++ [nextI s1 op1 wd]).length) := ⟨by simp; omega, Nat.le_refl _⟩
      clear hsc n1 n2 n3 hj hlt hok1 hto hg2 hroom HNX
      generalize nextI s1 op1 wd = x at *
      generalize vs2.getD j .nilIface = sv at *
      go_wp2_with fail
      refine HOP.out.mono ?_
      rintro e w2 ⟨rfl, as3, cs3, vs3, ao3, co3, hg3⟩
      obtain ⟨-, h03, hn3, ho3⟩ := HOK.out _ _ HTO2.out
      have HC3 := hidP (iClosed W0 w2 G cm cl cq cs3 co3 am al aq as3 ao3 ms ls q _ _ vs3 wd hg3 h03 hn3 ho3)
      have HG3 := hidP hg3
      clear hg3 h03 hn3 ho3 c0 g3
      go_wp2_with fail
      refine HC3.out.mono ?_
      rintro e w3 ⟨rfl, L3⟩
      have HG4 := hidP (HG3.out.next L3)
      clear L3
      go_wp2_with fail
      go_roundg (ms.length - (op1 ++ [x]).length)
      case rel => exact ⟨_, _, as3, cs3, vs3, ao3, co3, rfl, HGK.out.2, HTO2.out, HG4.out⟩
      case measure => exact HGK.out.1
    · have hnot : ¬ (outTo s1 op1 (min s1.length wd) ≥ 0) := hlt
      have HF := hidP (And.intro hto (And.intro (Int.not_le.1 hlt) hg2))
      clear hto hg2 hok1 hlt
      obtain ⟨t, ht⟩ : ∃ t, outTo s1 op1 (min s1.length wd) = t := ⟨_, rfl⟩
      rw [ht] at hnot ⊢
      clear ht
      go_wp2_with fail
      exact bodyPost_end (v := .tuple #[]) (by simp [results, Tryz.results102, go_sem]) rfl ⟨rfl, s1, op1, HF.out.1, HF.out.2.1, as2, cs2, vs2, ao2, co2, HF.out.2.2⟩

set_option maxRecDepth 100000 in
set_option maxHeartbeats 1000000 in
theorem iMayLook (am al aq : Option Addr) (cm cl cq : Nat) (ms : List Mk) (ls : List (List Int)) (fr : Int) (q : List Int) (w : World) (hm : MView w am ms) (hl : CView w al ls) (hq : View w aq q) (hsm : MSmall ms) (hcs : CSmall ls) (hql : q.length ≤ 1048576) (hcm : ms.length ≤ cm) (hcl : ls.length ≤ cl) :
    Calls Tryz.prog 186 #[.agg #[.slice am ms.length cm, .slice al ls.length cl], .int .i64 fr, .slice aq q.length cq] w fun e w' => e = .returned (.bool (toldW ms ls fr q)) ∧ Below w.heap.size w w' := by
  obtain ⟨W, hW⟩ : ∃ W, w.alloc (.cells #[.slice am ms.length cm, .slice al ls.length cl] 27) = W := ⟨_, rfl⟩
  have hB : Below w.heap.size w W := by rw [← hW]; exact (Below.refl _ _).alloc (Nat.le_refl _) _
  have hI : WebIn W w.heap.size am cm ms al cl ls := by rw [← hW]; exact WebIn.box hm hl
  have HOK := hidP (iWebOk14 am cm ms al cl ls W hI.mv hI.cv hsm hcs hcm hcl)
  have HB := hidP hB
  have HI := hidP hI
  have HQ := hidP (hq.next hB)
  have HSM := hidP hsm
  have k0 := hI.c0
  have k1 := hI.c1
  clear hm hl hq hB hI hsm hcs
  rcases hwb : webB ms ls with _ | _
  · have HV : Hid (toldW ms ls fr q = false) := by show _ = _; simp [toldW, hwb]
    rw [hwb] at HOK
    rw [HV.out]
    clear hwb
    go_enter Tryz.func186, Tryz.ntmps186
    go_wp2_with fail
    refine HOK.out.mono ?_
    rintro e w1 ⟨rfl, L1⟩
    have HL1 := hidP (chain HB.out L1)
    clear L1
    go_wp2_with fail
    go_ret
    exact ⟨rfl, HL1.out⟩
  · rw [hwb] at HOK
    have HWB := hidP hwb
    rcases htb : toldB ms q with _ | _
    · have HV : Hid (toldW ms ls fr q = false) := by show _ = _; simp [toldW, htb]
      rw [HV.out]
      have HT := hidP htb
      clear hwb htb
      go_enter Tryz.func186, Tryz.ntmps186
      go_wp2_with fail
      refine HOK.out.mono ?_
      rintro e w1 ⟨rfl, L1⟩
      have hI1 := HI.out.below L1
      have HL1 := hidP (chain HB.out L1)
      have HSU := hidP (iSuits am aq cm cq ms q w1 hI1.mv (HQ.out.next L1) HSM.out hql)
      rw [HT.out] at HSU
      clear L1 k0 k1 hW
      have k0 := hI1.c0
      have k1 := hI1.c1
      clear hI1
      go_wp2_with fail
      refine HSU.out.mono ?_
      rintro e w2 ⟨rfl, L2⟩
      have HL2 := hidP (chain HL1.out L2)
      clear L2 k0 k1
      go_wp2_with fail
      go_ret
      exact ⟨rfl, HL2.out⟩
    · have HV : Hid (toldW ms ls fr q = decide (0 ≤ zFind ms fr)) := by show _ = _; simp [toldW, htb, hwb]
      rw [HV.out]
      have HT := hidP htb
      clear hwb htb
      go_enter Tryz.func186, Tryz.ntmps186
      go_wp2_with fail
      refine HOK.out.mono ?_
      rintro e w1 ⟨rfl, L1⟩
      have hI1 := HI.out.below L1
      have HI1 := hidP hI1
      have HL1 := hidP (chain HB.out L1)
      have HSU := hidP (iSuits am aq cm cq ms q w1 hI1.mv (HQ.out.next L1) HSM.out hql)
      rw [HT.out] at HSU
      clear L1 k0 k1 hW
      have k0 := hI1.c0
      have k1 := hI1.c1
      clear hI1
      go_wp2_with fail
      refine HSU.out.mono ?_
      rintro e w2 ⟨rfl, L2⟩
      have hI2 := HI1.out.below L2
      have HL2 := hidP (chain HL1.out L2)
      have HPL := hidP (iPlace am al cm ls.length cl ms fr w2 hI2.mv (web_marks HWB.out))
      clear L2 k0 k1
      have k0 := hI2.c0
      have k1 := hI2.c1
      clear hI2
      obtain ⟨fb, hfb⟩ : ∃ fb, decide (0 ≤ zFind ms fr) = fb := ⟨_, rfl⟩
      have HFB := hidP hfb
      rw [hfb] at HPL
      clear hfb
      generalize plc fr ms = pn at *
      go_wp2_with fail
      refine HPL.out.mono ?_
      rintro e w3 ⟨rfl, L3⟩
      have HL3 := hidP (chain HL2.out L3)
      clear L3 k0 k1
      go_wp2_with fail
      go_ret
      exact ⟨ret_bool HFB.out.symm, HL3.out⟩

theorem gz_start (w : World) (am al aq : Option Addr) (cm cl cq : Nat) (ms : List Mk) (ls : List (List Int)) (q : List Int) (W : World) (G : Nat) (hL : Below w.heap.size w W) (hF : Fiv W G (.slice am ms.length cm) (.slice al ls.length cl) (.slice aq q.length cq) (.slice none 0 0) (.slice none 0 0) 123) (hG : w.heap.size ≤ G) : Gz w W G am cm ms al cl ls aq cq q [] [] none 0 [] none 0 :=
  ⟨hF, hG, ⟨rfl, Or.inl ⟨rfl, rfl⟩⟩, rfl, fun k hk => absurd hk (Nat.not_lt_zero _), ⟨rfl, Or.inl ⟨rfl, rfl⟩⟩, (fun e => by cases e), (fun e => by cases e), (fun g e => by cases e), hL⟩

set_option maxRecDepth 100000 in
set_option maxHeartbeats 1000000 in
theorem iLooked14 (am al aq : Option Addr) (cm cl cq : Nat) (ms : List Mk) (ls : List (List Int)) (fr : Int) (q : List Int) (wd : Nat) (w : World) (hI : LkIn w am ms al ls aq q) (hW : LkWeb ms ls q) (hf : 0 ≤ zFind ms fr) :
    Calls Tryz.prog 187 #[.agg #[.slice am ms.length cm, .slice al ls.length cl], .int .i64 fr, .slice aq q.length cq, .int .i64 wd] w fun e w' => ∃ G, e = .returned (.pointer (some ⟨G, 0, none⟩)) ∧ ∃ s2 op2, LkTo ms ls (ddQ ms q) wd [(fr, ddQ ms q fr)] [] s2 op2 ∧ outTo s2 op2 (min s2.length wd) < 0 ∧ ∃ as2 cs2 vs2 ao2 co2, Gz w w' G am cm ms al cl ls aq cq q s2 op2 as2 cs2 vs2 ao2 co2 := by
  obtain ⟨W1, hW1⟩ : ∃ W, w.alloc (.cells #[.slice am ms.length cm, .slice al ls.length cl] 27) = W := ⟨_, rfl⟩
  have L1 : Below w.heap.size w W1 := by rw [← hW1]; exact (Below.refl _ _).alloc (Nat.le_refl _) _
  have c0 : W1.cell? ⟨w.heap.size, 0, none⟩ = some (.slice am ms.length cm) := by rw [← hW1]; simp
  have c1 : W1.cell? ⟨w.heap.size, 1, none⟩ = some (.slice al ls.length cl) := by rw [← hW1]; simp
  obtain ⟨W2, hW2⟩ : ∃ W, W1.alloc (.cells #[.slice am ms.length cm, .slice al ls.length cl, .slice aq q.length cq, .slice none 0 0, .slice none 0 0] 123) = W := ⟨_, rfl⟩
  have L2 : Below W1.heap.size W1 W2 := by rw [← hW2]; exact (Below.refl _ _).alloc (Nat.le_refl _) _
  have hF : Fiv W2 W1.heap.size (.slice am ms.length cm) (.slice al ls.length cl) (.slice aq q.length cq) (.slice none 0 0) (.slice none 0 0) 123 := by rw [← hW2]; exact Fiv.new W1 _ _ _ _ _ _
  have hgz := gz_start w am al aq cm cl cq ms ls q W2 W1.heap.size (chain L1 L2) hF L1.size
  obtain ⟨hst, hok⟩ := look_start (ls := ls) (dd := ddQ ms q) hf
  have HSE := hidP (iSee w W2 W1.heap.size cm cl cq 0 0 am al aq none none ms ls q [] [] [] fr hgz hI hW (LookD.nil _) hf (Nat.zero_le _))
  rw [hst] at HSE
  have HI := hidP hI
  have HW := hidP hW
  have HOK := hidP hok
  clear L1 L2 hF hgz hst hok hI hW hf
  go_enter Tryz.func187, Tryz.ntmps187
  go_wp2_with fail
  refine HSE.out.mono ?_
  rintro e w1 ⟨rfl, as2, cs2, vs2, hg1⟩
  have HOF := hidP (iOpenFirst w w1 W1.heap.size cm cl cq cs2 0 am al aq as2 none ms ls q [] _ vs2 wd hg1 HI.out HW.out HOK.out (by simp))
  clear hg1 HSE hW1 hW2 c0 c1
  go_wp2_with fail
  refine HOF.out.mono ?_
  rintro e w2 ⟨rfl, hrest⟩
  have HR := hidP hrest
  clear hrest
  go_wp2_with fail
  go_ret
  exact ⟨W1.heap.size, rfl, HR.out⟩
end Go.Proofs.YtfbhohpbhjlihaaGreat
namespace Go.Proofs.YtfbhohpbhjlihaaGreat
open Go Go.RowKit

theorem walkG_ne (ms : List Mk) (ls : List (List Int)) (q : List Int) (x : Int) : walkG ms ls q x ≠ [] := by
  unfold walkG
  cases rkW ms q x with
  | zero => simp [walkF]
  | succ n => simp only [walkF]; split <;> simp
theorem dd_far {ms : List Mk} {q : List Int} (h : toldB ms q = true) : ddQ ms q = farD ms q := by
  funext x
  have hq : okB q = true := by
    simp only [toldB, Bool.and_eq_true] at h
    exact h.1.2
  have h4 := okB_len hq
  unfold ddQ farD
  rw [if_neg (by omega), farV_comm]
theorem told_web {ms : List Mk} {ls : List (List Int)} {fr : Int} {q : List Int} (h : toldW ms ls fr q = true) : LkWeb ms ls q ∧ 0 ≤ zFind ms fr ∧ ddQ ms q = farD ms q := by
  obtain ⟨h1, h2, h3⟩ := (toldW_iff _ _ _ _).1 h
  refine ⟨⟨h1, fun _ i hi => ?_⟩, h3, dd_far h2⟩
  have hm := web_marks h1
  simp only [toldB, Bool.and_eq_true, Bool.or_eq_true, decide_eq_true_eq] at h2
  obtain ⟨⟨-, hq⟩, hl⟩ := h2
  have a := (mOkAt_iff ms i).1 (marksB_at hm hi)
  have hlen : q.length = (mat ms i).length := by
    rcases hl with e | e
    · omega
    · omega
  unfold twoB
  simp [hq, a.2.2.1, hlen]

set_option maxRecDepth 100000 in
set_option maxHeartbeats 1000000 in
theorem iWalk14 : IWalk := by
  intro am cm ms al cl ls fr aq cq q w hm hl hqv hsm hcs hql hcm hcl hcq
  obtain ⟨W, hW⟩ : ∃ W, w.alloc (.cells #[.slice am ms.length cm, .slice al ls.length cl] 27) = W := ⟨_, rfl⟩
  have hB : Below w.heap.size w W := by rw [← hW]; exact (Below.refl _ _).alloc (Nat.le_refl _) _
  have hI : WebIn W w.heap.size am cm ms al cl ls := by rw [← hW]; exact WebIn.box hm hl
  have HML := hidP (iMayLook am al aq cm cl cq ms ls fr q W hI.mv hI.cv (hqv.next hB) hsm hcs hql hcm hcl)
  have HB := hidP hB
  have HI := hidP hI
  have HQ := hidP (hqv.next hB)
  have k0 := hI.c0
  have k1 := hI.c1
  clear hm hl hB hI hsm hcs hqv
  rcases ht : toldW ms ls fr q with _ | _
  · have HV : Hid (walkL ms ls fr q = []) := by show _ = _; simp [walkL, ht]
    rw [ht] at HML
    rw [HV.out]
    clear ht
    go_enter Tryz.func190, Tryz.ntmps190
    go_wp2_with fail
    refine HML.out.mono ?_
    rintro e w1 ⟨rfl, L1⟩
    have HL1 := hidP (chain HB.out L1)
    clear L1
    go_wp2_with fail
    go_ret
    exact ⟨none, 0, rfl, Or.inl ⟨rfl, rfl⟩, HL1.out⟩
  · obtain ⟨hw, hf, hdd⟩ := told_web ht
    have HV : Hid (walkL ms ls fr q = walkG ms ls q fr) := by show _ = _; simp [walkL, ht]
    rw [ht] at HML
    have HWF := hidP (And.intro hw (And.intro hf hdd))
    clear ht hw hf hdd
    go_enter Tryz.func190, Tryz.ntmps190
    go_wp2_with fail
    refine HML.out.mono ?_
    rintro e w1 ⟨rfl, L1⟩
    have hI1 := HI.out.below L1
    have HL1 := hidP (chain HB.out L1)
    have HLO := hidP (iLooked14 am al aq cm cl cq ms ls fr q 1 w1 ⟨hI1.mv, hI1.cv, HQ.out.next L1⟩ HWF.out.1 HWF.out.2.1)
    clear L1 k0 k1 hW
    have k0 := hI1.c0
    have k1 := hI1.c1
    clear hI1
    go_wp2_with fail
    refine HLO.out.mono ?_
    rintro e w2 ⟨G, rfl, s2, op2, hto, hend, as2, cs2, vs2, ao2, co2, hg⟩
    rw [HWF.out.2.2] at hto
    have HOP : Hid (walkL ms ls fr q = op2) := by show _ = _; rw [HV.out]; exact look_walk HWF.out.1.web HWF.out.2.1 hto hend
    obtain ⟨-, -, -, -, g4⟩ := hg.five.cells
    have HG := hidP hg
    clear hto hend hg k0 k1
    go_wp2_with fail
    go_ret
    have hL := HL1.out
    have hg := HG.out
    rw [HOP.out]
    refine ⟨ao2, co2, rfl, ?_, hL.trans (hg.bel.mono hL.size)⟩
    have hrow := hg.opr
    by_cases h0 : 0 < op2.length
    · obtain ⟨g, e, -, -, -⟩ := own_cell hrow (by rw [numC_len]; exact h0)
      subst e
      refine Or.inr ⟨g, co2, rfl, ?_⟩
      obtain ⟨h1, h2⟩ := hrow
      refine ⟨h1, ?_⟩
      rcases h2 with ⟨e1, e2⟩ | ⟨g', cp, cur, e1, hb, h5⟩
      · omega
      · exact Or.inr ⟨g', cp, cur, e1, Nat.le_trans hL.size hb, h5⟩
    · obtain rfl : op2 = [] := List.length_eq_zero_iff.1 (by omega)
      exact absurd HOP.out (by
        rw [HV.out]
        intro e
        have := walkG_ne ms ls q fr
        exact this e)
end Go.Proofs.YtfbhohpbhjlihaaGreat
namespace Go.Proofs.YtfbhohpbhjlihaaGreat
open Go Go.RowKit

set_option maxRecDepth 100000 in
set_option maxHeartbeats 2000000 in
theorem iIslands14 : IIslands := by
  intro am cm ms al cl ls w hm hl hsm hcs hcm hcl
  obtain ⟨W, hW⟩ : ∃ W, w.alloc (.cells #[.slice am ms.length cm, .slice al ls.length cl] 27) = W := ⟨_, rfl⟩
  have hB : Below w.heap.size w W := by rw [← hW]; exact (Below.refl _ _).alloc (Nat.le_refl _) _
  have hI : WebIn W w.heap.size am cm ms al cl ls := by rw [← hW]; exact WebIn.box hm hl
  have HOK := hidP (iWebOk14 am cm ms al cl ls W hI.mv hI.cv hsm hcs hcm hcl)
  have HB := hidP hB
  have HI := hidP hI
  have HLI : Hid (LkIn w am ms al ls none []) := ⟨hm, hl, Or.inl rfl⟩
  have k0 := hI.c0
  have k1 := hI.c1
  clear hm hl hB hI hsm hcs
  rcases hwb : webB ms ls with _ | _
  · have HV : Hid (islV ms ls = -1) := by show _ = _; simp [islV, hwb]
    rw [hwb] at HOK
    rw [HV.out]
    clear hwb
    go_enter Tryz.func19, Tryz.ntmps19
    go_wp2_with fail
    refine HOK.out.mono ?_
    rintro e w1 ⟨rfl, L1⟩
    have HL1 := hidP (chain HB.out L1)
    clear L1
    go_wp2_with fail
    go_ret
    exact ⟨rfl, HL1.out⟩
  · have HV : Hid (islV ms ls = (islN ms ls ms.length : Nat)) := by show _ = _; simp [islV, hwb]
    have HWB : Hid (LkWeb ms ls []) := ⟨hwb, fun h => absurd rfl h⟩
    rw [hwb] at HOK
    have hm60 := marksB_len (web_marks hwb)
    clear hwb
    go_enter Tryz.func19, Tryz.ntmps19
    go_wp2_with fail
    refine HOK.out.mono ?_
    rintro e w1 ⟨rfl, L1⟩
    have hI1 := HI.out.below L1
    have HI1 := hidP hI1
    have HL1 := hidP (chain HB.out L1)
    clear L1 k0 k1 hW
    have k0 := hI1.c0
    have k1 := hI1.c1
    obtain ⟨W2, hW2⟩ : ∃ W, w1.alloc (.cells #[.slice am ms.length cm, .slice al ls.length cl, .slice none 0 0, .slice none 0 0, .slice none 0 0] 123) = W := ⟨_, rfl⟩
    have L2 : Below w1.heap.size w1 W2 := by rw [← hW2]; exact (Below.refl _ _).alloc (Nat.le_refl _) _
    have hF : Fiv W2 w1.heap.size (.slice am ms.length cm) (.slice al ls.length cl) (.slice none 0 0) (.slice none 0 0) (.slice none 0 0) 123 := by rw [← hW2]; exact Fiv.new w1 _ _ _ _ _ _
    have HG2 := hidP (gz_start w am al none cm cl 0 ms ls [] W2 w1.heap.size (chain HL1.out L2) hF HL1.out.size)
    have hBl := hI1.lt
    have HW2 := hidP hW2
    clear L2 hF hI1 hW2
    go_wp2_with fail
    rw [HW2.out]
    clear hBl k0 k1 HW2
    generalize w1.heap.size = G at *
    go_loopw [15, 4] (fun i pv wr => ∃ (k : Nat) (s : List Ht) (op : List Int) (as2 : Option Addr) (cs2 : Nat) (vs2 : List Value) (ao2 : Option Addr) (co2 : Nat), k ≤ ms.length ∧ i = .int .i64 k ∧ pv = .int .i64 (islN ms ls k : Nat) ∧ IslOk ms ls (ddQ ms []) k s op ∧ Gz w wr G am cm ms al cl ls none 0 [] s op as2 cs2 vs2 ao2 co2) (fun i _ _ => ms.length - (intOf i).toNat)
    case atStart => exact ⟨0, [], [], none, 0, [], none, 0, Nat.zero_le _, rfl, rfl, IslOk.start ms ls _, HG2.out⟩
    case round =>
      obtain ⟨k, s, op, as2, cs2, vs2, ao2, co2, hk, rfl, rfl, his, hg⟩ := hrel
      have hil := islN_le ms ls k
      by_cases hlt : k < ms.length
      · obtain ⟨b, off, rfl, hbr, hs⟩ := MSeg.seg (HLI.out.mv.next hg.bel) (by omega)
        obtain ⟨c0, ao, cc, c1, -⟩ := hs.at (i := k) hlt
        have hk0 : (0 : Int) ≤ (k : Int) := Int.natCast_nonneg _
        have hk1 : (k : Int) < (ms.length : Int) := by omega
        have hfm := zFind_mid (web_marks HWB.out.web) hlt
        obtain ⟨V, hV⟩ : ∃ V, wr.alloc (.cells #[.int .i64 (mid ms k), .slice ao (mat ms k).length cc] 30) = V := ⟨_, rfl⟩
        have LV : Below wr.heap.size wr V := by rw [← hV]; exact (Below.refl _ _).alloc (Nat.le_refl _) _
        have hm0 : V.cell? ⟨wr.heap.size, 0, none⟩ = some (.int .i64 (mid ms k)) := by rw [← hV]; simp
        have hsh := his.ok.short
        have HSE := hidP (iSee w V G cm cl 0 cs2 co2 _ al none as2 ao2 ms ls [] op s vs2 (mid ms k) (hg.next LV) HLI.out HWB.out his.ok.look (by omega) (by omega))
        have HNB := hidP (his.old HWB.out.web hlt)
        have HIS := hidP his
        have hnn : (islN ms ls (k + 1) : Nat) = islN ms ls k + if newB ms ls k = true then 1 else 0 := rfl
        have HNN := hidP hnn
        clear hs hfm LV his hg hnn hsh
        rcases hb : hasB (idsH s) (mid ms k) with _ | _
        · have HN1 : Hid (((islN ms ls (k + 1) : Nat) : Int) = (islN ms ls k : Nat) + 1) := by
            show _ = _
            rw [HNN.out, HNB.out, hb]
            simp
          have h0s : 0 < (seeD (ddQ ms []) s (mid ms k)).length := by
            obtain ⟨j, hj, -⟩ := idsH_at (seeD_mem (dd := ddQ ms []) (s := s) (x := mid ms k) (y := mid ms k) |>.2 (Or.inl rfl))
            omega
          rw [hb] at HSE
          clear hb HNN HNB
          go_wp2_with fail
          refine HSE.out.mono ?_
          rintro e w3 ⟨rfl, as3, cs3, vs3, hg3⟩
          have HFM := zFind_mid (web_marks HWB.out.web) hlt
          have HOF := hidP (iOpenFirst w w3 G cm cl 0 cs3 co2 _ al none as3 ao2 ms ls [] op _ vs3 60 hg3 HLI.out HWB.out (HIS.out.ok.see (by omega)) h0s)
          clear hg3 HFM hV hm0 c0 c1
          go_wp2_with fail
          refine HOF.out.mono ?_
          rintro e w4 ⟨rfl, s4, op4, hto, hend, as4, cs4, vs4, ao4, co4, hg4⟩
          have HIK := hidP (HIS.out.more HWB.out.web hlt (by omega) hto hend)
          have HG4 := hidP hg4
          clear hto hend hg4
          generalize islN ms ls k = nk at *
          go_wp2_with fail
          go_roundw
          case rel => exact ⟨k + 1, s4, op4, as4, cs4, vs4, ao4, co4, by omega, by go_num, by rw [HN1.out], HIK.out, HG4.out⟩
          case measure => simp [intOf]; omega
        · have HN1 : Hid (islN ms ls (k + 1) = islN ms ls k) := by
            show _ = _
            rw [HNN.out, HNB.out, hb]
            simp
          have HS : Hid (seeD (ddQ ms []) s (mid ms k) = s) := by show _ = _; unfold seeD; rw [hb]; rfl
          have HIK := hidP (HIS.out.pass ((hasB_iff _ _).1 hb))
          rw [hb] at HSE
          clear hb HNN HNB
          go_wp2_with fail
          refine HSE.out.mono ?_
          rintro e w3 ⟨rfl, as3, cs3, vs3, hg3⟩
          rw [HS.out] at hg3
          have HG3 := hidP hg3
          clear hg3 hV hm0 c0 c1
          go_wp2_with fail
          go_roundw
          case rel => exact ⟨k + 1, s, op, as3, cs3, vs3, ao2, co2, by omega, by go_num, by rw [HN1.out], HIK.out, HG3.out⟩
          case measure => simp [intOf]; omega
      · obtain rfl : k = ms.length := by omega
        have HG := hidP hg
        clear hg his
        go_wp2_with fail
        go_ret
        exact ⟨ret_int HV.out.symm, HG.out.bel⟩
end Go.Proofs.YtfbhohpbhjlihaaGreat
