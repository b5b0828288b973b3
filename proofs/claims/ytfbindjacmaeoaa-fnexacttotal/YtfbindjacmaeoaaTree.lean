/-
  Plain mathematics for the laws of chapter 5 (no program is named here): marks by a number of theirs, the tree of halves, its knots in a list, its height.
-/
import Derived.Test.YtfbindjacmaeoaaHits
namespace Go.Proofs.Ytfbindjacmaeoaa

/-- Put ahead of the first one that is not ahead of it. -/
def insBy {α : Type} (lt : α → α → Bool) (x : α) : List α → List α
  | [] => [x]
  | y :: ys => if lt y x = true then y :: insBy lt x ys else x :: y :: ys
def posBy {α : Type} (lt : α → α → Bool) (x : α) : List α → Nat
  | [] => 0
  | y :: ys => if lt y x = true then posBy lt x ys + 1 else 0
def sortBy {α : Type} (lt : α → α → Bool) (l : List α) : List α := l.foldl (fun acc x => insBy lt x acc) []
/-- An order in which two that are neither ahead of the other are one, on those of a list. -/
structure Parts {α : Type} (lt : α → α → Bool) (P : α → Prop) : Prop where
  trans : ∀ a b c, P a → P b → P c → lt a b = true → lt b c = true → lt a c = true
  one : ∀ a b, P a → P b → lt a b = false → lt b a = false → a = b
  asym : ∀ a b, P a → P b → lt a b = true → lt b a = false

theorem posBy_le {α : Type} (lt : α → α → Bool) (x : α) (l : List α) : posBy lt x l ≤ l.length := by
  induction l with
  | nil => simp [posBy]
  | cons y ys ih => unfold posBy; split <;> simp <;> omega
theorem insBy_eq {α : Type} (lt : α → α → Bool) (x : α) (l : List α) : insBy lt x l = l.take (posBy lt x l) ++ x :: l.drop (posBy lt x l) := by
  induction l with
  | nil => rfl
  | cons y ys ih =>
    unfold insBy posBy
    split
    · rw [ih]; rfl
    · rfl
theorem posBy_lt {α : Type} (lt : α → α → Bool) (x : α) (l : List α) (i : Nat) (h : i < l.length) (hi : i < posBy lt x l) : lt l[i] x = true := by
  induction l generalizing i with
  | nil => simp at h
  | cons y ys ih =>
    unfold posBy at hi
    split at hi
    · rename_i hy
      match i with
      | 0 => exact hy
      | k + 1 => exact ih k (by simpa using h) (by omega)
    · omega
theorem posBy_at {α : Type} (lt : α → α → Bool) (x : α) (l : List α) (h : posBy lt x l < l.length) : lt l[posBy lt x l] x = false := by
  induction l with
  | nil => simp at h
  | cons y ys ih =>
    by_cases hy : lt y x = true
    · have e : posBy lt x (y :: ys) = posBy lt x ys + 1 := by simp [posBy, hy]
      simp only [e] at h ⊢
      exact ih (by simpa using h)
    · have e : posBy lt x (y :: ys) = 0 := by simp [posBy, hy]
      simp only [e]
      simpa using hy
/-- The place found by going on while those there are ahead. -/
theorem posBy_uniq {α : Type} (lt : α → α → Bool) (x : α) (l : List α) (k : Nat) (hk : k ≤ l.length) (h1 : ∀ i (h : i < l.length), i < k → lt l[i] x = true) (h2 : ∀ h : k < l.length, lt l[k] x = false) : posBy lt x l = k := by
  rcases Nat.lt_trichotomy (posBy lt x l) k with h | h | h
  · have := h1 (posBy lt x l) (by omega) h
    rw [posBy_at lt x l (by omega)] at this; cases this
  · exact h
  · have hl := posBy_le lt x l
    have := posBy_lt lt x l k (by omega) h
    rw [h2 (by omega)] at this; cases this
theorem insBy_perm {α : Type} (lt : α → α → Bool) (x : α) (l : List α) : (insBy lt x l).Perm (x :: l) := by
  induction l with
  | nil => exact List.Perm.refl _
  | cons y ys ih =>
    unfold insBy
    split
    · exact (List.Perm.cons y ih).trans (List.Perm.swap x y ys)
    · exact List.Perm.refl _
theorem insBy_length {α : Type} (lt : α → α → Bool) (x : α) (l : List α) : (insBy lt x l).length = l.length + 1 := by rw [(insBy_perm lt x l).length_eq]; rfl
theorem foldBy_perm {α : Type} (lt : α → α → Bool) (l acc : List α) : (l.foldl (fun acc x => insBy lt x acc) acc).Perm (acc ++ l) := by
  induction l generalizing acc with
  | nil => simp
  | cons x xs ih =>
    refine (ih (insBy lt x acc)).trans ?_
    refine ((insBy_perm lt x acc).append_right xs).trans ?_
    exact (List.perm_middle (a := x) (l₁ := acc) (l₂ := xs)).symm
theorem sortBy_perm {α : Type} (lt : α → α → Bool) (l : List α) : (sortBy lt l).Perm l := by simpa [sortBy] using foldBy_perm lt l []
theorem sortBy_length {α : Type} (lt : α → α → Bool) (l : List α) : (sortBy lt l).length = l.length := (sortBy_perm lt l).length_eq
theorem sortBy_snoc {α : Type} (lt : α → α → Bool) (l : List α) (x : α) : sortBy lt (l ++ [x]) = insBy lt x (sortBy lt l) := by simp [sortBy, List.foldl_append]
theorem sortBy_take {α : Type} (lt : α → α → Bool) (l : List α) (i : Nat) (h : i < l.length) : sortBy lt (l.take (i + 1)) = insBy lt l[i] (sortBy lt (l.take i)) := by
  rw [← sortBy_snoc, List.take_add_one, List.getElem?_eq_getElem h]; rfl

/-- Not behind the next ones. -/
def SortedBy {α : Type} (lt : α → α → Bool) (l : List α) : Prop := l.Pairwise fun a b => lt b a = false
theorem insBy_sorted {α : Type} {lt : α → α → Bool} {P : α → Prop} (hp : Parts lt P) (x : α) (l : List α) (hx : P x) (hl : ∀ y ∈ l, P y) (hs : SortedBy lt l) : SortedBy lt (insBy lt x l) := by
  unfold SortedBy at *
  induction l with
  | nil => simp [insBy]
  | cons y ys ih =>
    rw [List.pairwise_cons] at hs
    have hy := hl y (List.mem_cons_self ..)
    unfold insBy
    split
    · rename_i h
      refine List.pairwise_cons.2 ⟨fun z hz => ?_, ih (fun z hz => hl z (List.mem_cons_of_mem _ hz)) hs.2⟩
      rcases List.mem_cons.1 ((insBy_perm lt x ys).mem_iff.1 hz) with rfl | hz
      · exact hp.asym _ _ hy hx h
      · exact hs.1 z hz
    · rename_i h
      have h : lt y x = false := by simpa using h
      refine List.pairwise_cons.2 ⟨fun z hz => ?_, List.pairwise_cons.2 hs⟩
      rcases List.mem_cons.1 hz with rfl | hz
      · exact h
      · have hz' := hl z (List.mem_cons_of_mem _ hz)
        rcases hzx : lt z x with _ | _
        · rfl
        · have h2 := hs.1 z hz
          rcases hyz : lt y z with _ | _
          · have := hp.one _ _ hy hz' hyz h2
            subst this; rw [h] at hzx; cases hzx
          · rw [hp.trans _ _ _ hy hz' hx hyz hzx] at h; cases h
theorem foldBy_sorted {α : Type} {lt : α → α → Bool} {P : α → Prop} (hp : Parts lt P) (l acc : List α) (hl : ∀ y ∈ l, P y) (ha : ∀ y ∈ acc, P y) (hs : SortedBy lt acc) : SortedBy lt (l.foldl (fun acc x => insBy lt x acc) acc) := by
  induction l generalizing acc with
  | nil => exact hs
  | cons x xs ih =>
    refine ih _ (fun y hy => hl y (List.mem_cons_of_mem _ hy)) (fun y hy => ?_) (insBy_sorted hp x acc (hl x (List.mem_cons_self ..)) ha hs)
    rcases List.mem_cons.1 ((insBy_perm lt x acc).mem_iff.1 hy) with rfl | hy
    · exact hl _ (List.mem_cons_self ..)
    · exact ha y hy
theorem sortBy_sorted {α : Type} {lt : α → α → Bool} {P : α → Prop} (hp : Parts lt P) (l : List α) (hl : ∀ y ∈ l, P y) : SortedBy lt (sortBy lt l) :=
  foldBy_sorted hp l [] hl (fun y hy => by cases hy) List.Pairwise.nil
/-- There is one list in order of those of a list. -/
theorem sorted_one {α : Type} {lt : α → α → Bool} {P : α → Prop} (hp : Parts lt P) : ∀ (l m : List α), (∀ y ∈ l, P y) → l.Perm m → SortedBy lt l → SortedBy lt m → l = m
  | [], m, _, hperm, _, _ => (List.Perm.nil_eq hperm)
  | a :: l, m, hl, hperm, h1, h2 => by
    match m, hperm with
    | [], hperm => exact absurd hperm.length_eq (by simp)
    | b :: m, hperm =>
      unfold SortedBy at h1 h2
      have h1' := List.pairwise_cons.1 h1
      have h2' := List.pairwise_cons.1 h2
      have ha : P a := hl a (List.mem_cons_self ..)
      have hb : P b := hl b (hperm.mem_iff.2 (List.mem_cons_self ..))
      have hab : a = b := by
        rcases List.mem_cons.1 (hperm.mem_iff.1 (List.mem_cons_self ..) : a ∈ b :: m) with e | e
        · exact e
        · rcases List.mem_cons.1 (hperm.mem_iff.2 (List.mem_cons_self ..) : b ∈ a :: l) with f | f
          · exact f.symm
          · exact hp.one _ _ ha hb (h2'.1 a e) (h1'.1 b f)
      subst hab
      rw [sorted_one hp l m (fun y hy => hl y (List.mem_cons_of_mem _ hy)) (List.Perm.cons_inv hperm) h1'.2 h2'.2]
theorem sortBy_one {α : Type} {lt : α → α → Bool} {P : α → Prop} (hp : Parts lt P) (l m : List α) (hl : ∀ y ∈ l, P y) (hperm : m.Perm l) (hs : SortedBy lt m) : m = sortBy lt l :=
  sorted_one hp m (sortBy lt l) (fun y hy => hl y (hperm.mem_iff.1 hy)) (hperm.trans (sortBy_perm lt l).symm) hs (sortBy_sorted hp l hl)

/-- By a number of theirs, of alike ones by number. -/
def axlt (ax : Nat) (a b : Mk) : Bool := decide (nth a.2 ax < nth b.2 ax) || (decide (nth a.2 ax = nth b.2 ax) && decide (a.1 < b.1))
def idlt (a b : Mk) : Bool := decide (a.1 < b.1)
theorem axlt_iff (ax : Nat) (a b : Mk) : axlt ax a b = true ↔ nth a.2 ax < nth b.2 ax ∨ (nth a.2 ax = nth b.2 ax ∧ a.1 < b.1) := by simp [axlt]
theorem axlt_not (ax : Nat) (a b : Mk) : axlt ax a b = false ↔ nth b.2 ax < nth a.2 ax ∨ (nth a.2 ax = nth b.2 ax ∧ b.1 ≤ a.1) := by
  rcases h : axlt ax a b with _ | _
  · have : ¬ (nth a.2 ax < nth b.2 ax ∨ (nth a.2 ax = nth b.2 ax ∧ a.1 < b.1)) := fun hh => by rw [(axlt_iff ax a b).2 hh] at h; cases h
    constructor
    · intro _; omega
    · intro _; rfl
  · have := (axlt_iff ax a b).1 h
    constructor
    · intro hh; cases hh
    · intro hh; omega
/-- No two of one number. -/
def Sole (ms : List Mk) : Prop := ∀ a ∈ ms, ∀ b ∈ ms, a.1 = b.1 → a = b
theorem parts_axlt (ax : Nat) {ms : List Mk} (h : Sole ms) : Parts (axlt ax) (· ∈ ms) where
  trans a b c _ _ _ h1 h2 := by rw [axlt_iff] at *; omega
  one a b ha hb h1 h2 := by rw [axlt_not] at *; exact h a ha b hb (by omega)
  asym a b _ _ h1 := by rw [axlt_iff] at h1; rw [axlt_not]; omega
theorem parts_idlt {ms : List Mk} (h : Sole ms) : Parts idlt (· ∈ ms) where
  trans a b c _ _ _ h1 h2 := by simp [idlt] at *; omega
  one a b ha hb h1 h2 := by simp [idlt] at *; exact h a ha b hb (by omega)
  asym a b _ _ h1 := by simp [idlt] at *; omega
theorem Sole.sub {ms ns : List Mk} (h : Sole ms) (hs : ∀ a ∈ ns, a ∈ ms) : Sole ns := fun a ha b hb e => h a (hs a ha) b (hs b hb) e
theorem Sole.of_rise {ms : List Mk} (h : ms.Pairwise fun a b => a.1 < b.1) : Sole ms := by
  induction ms with
  | nil => intro a ha; cases ha
  | cons x xs ih =>
    rw [List.pairwise_cons] at h
    intro a ha b hb e
    rcases List.mem_cons.1 ha with e1 | ha1
    · rcases List.mem_cons.1 hb with e2 | hb1
      · rw [e1, e2]
      · have := h.1 b hb1; subst e1; omega
    · rcases List.mem_cons.1 hb with e2 | hb1
      · have := h.1 a ha1; subst e2; omega
      · exact ih h.2 a ha1 b hb1 e

/-- The tree of halves. -/
inductive Tr where
  | leaf : Tr
  | node (m : Mk) (ax : Nat) (l r : Tr) : Tr
/-- A knot: its mark, its axis, less, more. -/
abbrev Kn := Mk × Int × Int × Int
def Tr.size : Tr → Nat
  | .leaf => 0
  | .node _ _ l r => l.size + r.size + 1
def Tr.place : Tr → Nat → Int
  | .leaf, _ => -1
  | .node .., p => (p : Int)
def Tr.flat : Tr → Nat → List Kn
  | .leaf, _ => []
  | .node m ax l r, p => (m, (ax : Int), l.place (p + 1), r.place (p + 1 + l.size)) :: (l.flat (p + 1) ++ r.flat (p + 1 + l.size))
def Tr.marks : Tr → List Mk
  | .leaf => []
  | .node m _ l r => m :: (l.marks ++ r.marks)
def Tr.tall : Tr → Nat
  | .leaf => 0
  | .node _ _ l r => 1 + max l.tall r.tall
theorem Tr.flat_length (t : Tr) (p : Nat) : (t.flat p).length = t.size := by
  induction t generalizing p with
  | leaf => rfl
  | node m ax l r ihl ihr => simp [Tr.flat, Tr.size, ihl, ihr]
theorem Tr.marks_length (t : Tr) : t.marks.length = t.size := by
  induction t with
  | leaf => rfl
  | node m ax l r ihl ihr => simp [Tr.marks, Tr.size, ihl, ihr]
theorem Tr.flat_marks (t : Tr) (p : Nat) : (t.flat p).map (·.1) = t.marks := by
  induction t generalizing p with
  | leaf => rfl
  | node m ax l r ihl ihr => simp [Tr.flat, Tr.marks, ihl, ihr]
/-- The tree of some marks by an axis; f: no less than there are. -/
def treeF : Nat → List Mk → Nat → Tr
  | 0, _, _ => .leaf
  | f + 1, ms, ax =>
    if ms.length = 0 then .leaf else
    .node (mnthT (sortBy (axlt ax) ms) (ms.length / 2)) ax
      (treeF f ((sortBy (axlt ax) ms).take (ms.length / 2)) ((ax + 1) % (mnthT (sortBy (axlt ax) ms) (ms.length / 2)).2.length))
      (treeF f ((sortBy (axlt ax) ms).drop (ms.length / 2 + 1)) ((ax + 1) % (mnthT (sortBy (axlt ax) ms) (ms.length / 2)).2.length))
where mnthT (ms : List Mk) (i : Nat) : Mk := ms.getD i (0, [])
theorem treeF_none (f : Nat) (ax : Nat) : treeF f [] ax = .leaf := by cases f <;> rfl
theorem treeF_node (f : Nat) (ms : List Mk) (ax : Nat) (h : ms.length ≠ 0) : treeF (f + 1) ms ax = .node (treeF.mnthT (sortBy (axlt ax) ms) (ms.length / 2)) ax (treeF f ((sortBy (axlt ax) ms).take (ms.length / 2)) ((ax + 1) % (treeF.mnthT (sortBy (axlt ax) ms) (ms.length / 2)).2.length)) (treeF f ((sortBy (axlt ax) ms).drop (ms.length / 2 + 1)) ((ax + 1) % (treeF.mnthT (sortBy (axlt ax) ms) (ms.length / 2)).2.length)) := by
  rw [treeF, if_neg h]
theorem getD_mid {ms : List Mk} {i : Nat} (h : i < ms.length) : ms = ms.take i ++ ms.getD i (0, []) :: ms.drop (i + 1) := by
  have e : ms.getD i (0, []) = ms[i] := by simp [List.getD, h]
  rw [e, ← List.drop_eq_getElem_cons h, List.take_append_drop]
theorem treeF_marks (f : Nat) (ms : List Mk) (ax : Nat) (h : ms.length ≤ f) : (treeF f ms ax).marks.Perm ms := by
  induction f generalizing ms ax with
  | zero =>
    have : ms = [] := List.length_eq_zero_iff.1 (by omega)
    subst this; exact List.Perm.refl _
  | succ f ih =>
    unfold treeF
    split
    · rename_i h0
      have : ms = [] := List.length_eq_zero_iff.1 h0
      subst this; exact List.Perm.refl _
    · rename_i h0
      have hl := sortBy_length (axlt ax) ms
      have hp := sortBy_perm (axlt ax) ms
      generalize sortBy (axlt ax) ms = s at hl hp ⊢
      simp only [Tr.marks]
      have hm : ms.length / 2 < s.length := by omega
      have e := getD_mid hm
      refine (List.Perm.cons _ ((ih _ _ (by simp; omega)).append (ih _ _ (by simp; omega)))).trans ?_
      refine (List.perm_middle.symm).trans ?_
      unfold treeF.mnthT
      rw [← e]; exact hp
theorem treeF_size (f : Nat) (ms : List Mk) (ax : Nat) (h : ms.length ≤ f) : (treeF f ms ax).size = ms.length := by
  rw [← Tr.marks_length, (treeF_marks f ms ax h).length_eq]
theorem treeF_place (f : Nat) (ms : List Mk) (ax p : Nat) (h : ms.length ≤ f) : (treeF f ms ax).place p = if ms.length = 0 then -1 else (p : Int) := by
  match f with
  | 0 => rw [if_pos (by omega)]; rfl
  | f + 1 => unfold treeF; split <;> rfl

/-- What is halved. -/
def halvedV (ms : List Mk) : List Kn := if marksB ms = true then (treeF 60 ms 0).flat 0 else []
def knotMs (ks : List Kn) : List Mk := sortBy idlt (ks.map (·.1))
def knotsB (ks : List Kn) : Bool := marksB (knotMs ks) && decide (halvedV (knotMs ks) = ks)

theorem marks_rise {ms : List Mk} (h : marksB ms = true) : ms.Pairwise fun a b => a.1 < b.1 := by
  have hstep : ∀ i, i + 1 < ms.length → mid ms i < mid ms (i + 1) := fun i hi => by
    have := ((mOkAt_iff ms (i + 1)).1 (marksB_at h hi)).2.2.2.2
    rcases this with h0 | h0
    · omega
    · exact h0
  have hall : ∀ d i, i + d + 1 < ms.length → mid ms i < mid ms (i + d + 1) := by
    intro d
    induction d with
    | zero => intro i hi; exact hstep i hi
    | succ d ih =>
      intro i hi
      have h1 := ih i (by omega)
      have h2 := hstep (i + d + 1) (by omega)
      rw [show i + (d + 1) + 1 = i + d + 1 + 1 by omega]; omega
  rw [List.pairwise_iff_getElem]
  intro i j hi hj hij
  have := hall (j - i - 1) i (by omega)
  rw [show i + (j - i - 1) + 1 = j by omega] at this
  simpa [mid, List.getD, hi, hj] using this
theorem marks_sole {ms : List Mk} (h : marksB ms = true) : Sole ms := Sole.of_rise (marks_rise h)

end Go.Proofs.Ytfbindjacmaeoaa
