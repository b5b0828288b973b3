/-
  Plain mathematics for the laws of chapter 3 (no program is named here): hits, their order, the sorted list, the first ones, each number once.
-/
import Derived.Test.YthkaiienfkihmaaMarks
namespace Go.Proofs.Ythkaiienfkihmaa

/-- A hit: its number, and how far. -/
abbrev Ht := Int × Int
def aheadB (a b : Ht) : Bool := decide (a.2 < b.2) || (decide (a.2 = b.2) && decide (a.1 < b.1))
/-- In order, or alike. -/
def leH (a b : Ht) : Prop := a.2 < b.2 ∨ (a.2 = b.2 ∧ a.1 ≤ b.1)
def hnth (hs : List Ht) (i : Nat) : Ht := hs.getD i (0, 0)
def putL : List Ht → Ht → List Ht
  | [], h => [h]
  | x :: xs, h => if aheadB h x = true then h :: x :: xs else x :: putL xs h
def sortL (l : List Ht) : List Ht := l.foldl putL []
def SortedH (l : List Ht) : Prop := l.Pairwise leH

theorem aheadB_iff (a b : Ht) : aheadB a b = true ↔ a.2 < b.2 ∨ (a.2 = b.2 ∧ a.1 < b.1) := by simp [aheadB]
theorem aheadB_false (a b : Ht) : aheadB a b = false ↔ leH b a := by
  unfold leH
  rcases h : aheadB a b with _ | _
  · have : ¬ (a.2 < b.2 ∨ (a.2 = b.2 ∧ a.1 < b.1)) := fun hh => by rw [(aheadB_iff a b).2 hh] at h; cases h
    constructor
    · intro _; omega
    · intro _; rfl
  · have := (aheadB_iff a b).1 h
    constructor
    · intro hh; cases hh
    · intro hh; omega
theorem leH_refl (a : Ht) : leH a a := by unfold leH; omega
theorem leH_trans {a b c : Ht} (h : leH a b) (k : leH b c) : leH a c := by unfold leH at *; omega
theorem leH_antisymm {a b : Ht} (h : leH a b) (k : leH b a) : a = b := by
  unfold leH at *
  exact Prod.ext (by omega) (by omega)
theorem leH_total (a b : Ht) : leH a b ∨ leH b a := by unfold leH; omega
theorem leH_of_ahead {a b : Ht} (h : aheadB a b = true) : leH a b := by rw [aheadB_iff] at h; unfold leH; omega

theorem putL_perm (l : List Ht) (h : Ht) : (putL l h).Perm (h :: l) := by
  induction l with
  | nil => exact List.Perm.refl _
  | cons x xs ih =>
    unfold putL
    split
    · exact List.Perm.refl _
    · exact (List.Perm.cons x ih).trans (List.Perm.swap h x xs)
theorem putL_length (l : List Ht) (h : Ht) : (putL l h).length = l.length + 1 := by rw [(putL_perm l h).length_eq]; rfl
theorem putL_sorted {l : List Ht} (hl : SortedH l) (h : Ht) : SortedH (putL l h) := by
  unfold SortedH at *
  induction l with
  | nil => simp [putL]
  | cons x xs ih =>
    rw [List.pairwise_cons] at hl
    unfold putL
    split
    · rename_i ha
      have hx := leH_of_ahead ha
      exact List.pairwise_cons.2 ⟨fun y hy => by
        rcases List.mem_cons.1 hy with rfl | hy
        · exact hx
        · exact leH_trans hx (hl.1 y hy), List.pairwise_cons.2 hl⟩
    · rename_i ha
      have hx : leH x h := (aheadB_false h x).1 (by simpa using ha)
      refine List.pairwise_cons.2 ⟨fun y hy => ?_, ih hl.2⟩
      rcases List.mem_cons.1 ((putL_perm xs h).mem_iff.1 hy) with rfl | hy
      · exact hx
      · exact hl.1 y hy
theorem fold_perm (l acc : List Ht) : (l.foldl putL acc).Perm (acc ++ l) := by
  induction l generalizing acc with
  | nil => simp
  | cons x xs ih =>
    refine (ih (putL acc x)).trans ?_
    refine ((putL_perm acc x).append_right xs).trans ?_
    exact (List.perm_middle (a := x) (l₁ := acc) (l₂ := xs)).symm
theorem fold_sorted (l acc : List Ht) (h : SortedH acc) : SortedH (l.foldl putL acc) := by
  induction l generalizing acc with
  | nil => exact h
  | cons x xs ih => exact ih _ (putL_sorted h x)
theorem sortL_perm (l : List Ht) : (sortL l).Perm l := by simpa [sortL] using fold_perm l []
theorem sortL_sorted (l : List Ht) : SortedH (sortL l) := fold_sorted l [] List.Pairwise.nil
theorem sortL_length (l : List Ht) : (sortL l).length = l.length := (sortL_perm l).length_eq
theorem sortL_snoc (l : List Ht) (h : Ht) : sortL (l ++ [h]) = putL (sortL l) h := by simp [sortL, List.foldl_append]
/-- Two sorted lists of the same hits are one. -/
theorem sorted_unique {l m : List Ht} (hl : SortedH l) (hm : SortedH m) (hp : l.Perm m) : l = m := by
  unfold SortedH at *
  induction l generalizing m with
  | nil => exact (List.nil_perm.1 hp).symm
  | cons x xs ih =>
    cases m with
    | nil => exact absurd hp.length_eq (by simp)
    | cons y ys =>
      rw [List.pairwise_cons] at hl hm
      have hxy : leH x y := by
        rcases List.mem_cons.1 (hp.mem_iff.2 (List.mem_cons_self ..) : y ∈ x :: xs) with h | h
        · rw [h]; exact leH_refl x
        · exact hl.1 y h
      have hyx : leH y x := by
        rcases List.mem_cons.1 (hp.mem_iff.1 (List.mem_cons_self ..) : x ∈ y :: ys) with h | h
        · rw [h]; exact leH_refl y
        · exact hm.1 x h
      obtain rfl := leH_antisymm hxy hyx
      rw [ih hl.2 hm.2 (List.Perm.cons_inv hp)]
theorem sortL_unique {l m : List Ht} (hm : SortedH m) (hp : m.Perm l) : m = sortL l := sorted_unique hm (sortL_sorted l) (hp.trans (sortL_perm l).symm)
theorem sortL_congr {l m : List Ht} (hp : l.Perm m) : sortL l = sortL m := sorted_unique (sortL_sorted l) (sortL_sorted m) ((sortL_perm l).trans (hp.trans (sortL_perm m).symm))

def hasB (ids : List Int) (x : Int) : Bool := ids.contains x
/-- Each number once, its first. -/
def onceG (ids : List Int) : List Ht → List Ht
  | [] => []
  | x :: xs => if hasB ids x.1 = true then onceG ids xs else x :: onceG (ids ++ [x.1]) xs
def onceL (l : List Ht) : List Ht := onceG [] l

def hitOkAt (hs : List Ht) (i : Nat) : Bool := decide (1 ≤ (hnth hs i).1) && decide (0 ≤ (hnth hs i).2) && (decide (i = 0) || aheadB (hnth hs (i - 1)) (hnth hs i))
def hitsB (hs : List Ht) : Bool := (List.range hs.length).all (hitOkAt hs)
theorem hitsB_at {hs : List Ht} (h : hitsB hs = true) {i : Nat} (hi : i < hs.length) : hitOkAt hs i = true := by
  simp only [hitsB, List.all_eq_true] at h
  exact h i (List.mem_range.2 hi)
theorem hitsB_out {hs : List Ht} {i : Nat} (hi : i < hs.length) (h : hitOkAt hs i = false) : hitsB hs = false := by
  rcases hb : hitsB hs with _ | _
  · rfl
  · rw [hitsB_at hb hi] at h; cases h
theorem hitsB_mk {hs : List Ht} (h : ∀ i, i < hs.length → hitOkAt hs i = true) : hitsB hs = true := by
  simp only [hitsB, List.all_eq_true]
  exact fun i hi => h i (List.mem_range.1 hi)

/-- Are marks and a place as told. -/
def toldB (ms : List Mk) (q : List Int) : Bool := marksB ms && okB q && (decide (ms.length = 0) || decide ((mat ms 0).length = q.length))
def hitF (q : List Int) (m : Mk) : Ht := (m.1, farV m.2 q)
def hitsL (ms : List Mk) (q : List Int) : List Ht := ms.map (hitF q)
def countB (k : Int) : Bool := decide (1 ≤ k) && decide (k ≤ 60)
def nearL (ms : List Mk) (q : List Int) (k : Int) : List Ht := if toldB ms q = true ∧ countB k = true then (sortL (hitsL ms q)).take k.toNat else []
def withinL (ms : List Mk) (q : List Int) (most : Int) : List Ht := if toldB ms q = true ∧ 0 ≤ most then (sortL (hitsL ms q)).filter (fun h => decide (h.2 ≤ most)) else []
def mergedL (a b : List Ht) (k : Int) : List Ht := if countB k = true then (onceL (sortL (a ++ b))).take k.toNat else []

theorem mergedL_comm (a b : List Ht) (k : Int) : mergedL b a k = mergedL a b k := by
  unfold mergedL
  rw [sortL_congr (List.perm_append_comm : (b ++ a).Perm (a ++ b))]

theorem toldB_bad {ms : List Mk} {q : List Int} (h : marksB ms = false) : toldB ms q = false := by simp [toldB, h]
theorem toldB_no {ms : List Mk} {q : List Int} (h : okB q = false) : toldB ms q = false := by simp [toldB, h]

end Go.Proofs.Ythkaiienfkihmaa
