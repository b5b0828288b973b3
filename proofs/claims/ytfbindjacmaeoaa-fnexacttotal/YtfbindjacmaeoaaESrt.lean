/-
  Plain mathematics for the laws of chapter 12 (no program is named here): all pairs in order.
-/
import Derived.Test.YtfbindjacmaeoaaEKru
namespace Go.Proofs.Ytfbindjacmaeoaa

/-- By their length, then the first, then the second. -/
def eAhead (D : Nat → Nat → Int) (e f : Eg) : Bool := decide (wt D e < wt D f) || (decide (wt D e = wt D f) && (decide (e.1 < f.1) || (decide (e.1 = f.1) && decide (e.2 < f.2))))
theorem eAhead_iff (D : Nat → Nat → Int) (e f : Eg) : eAhead D e f = true ↔ wt D e < wt D f ∨ (wt D e = wt D f ∧ (e.1 < f.1 ∨ (e.1 = f.1 ∧ e.2 < f.2))) := by simp [eAhead]
theorem eAhead_trans {D : Nat → Nat → Int} {e f g : Eg} (h1 : eAhead D e f = true) (h2 : eAhead D f g = true) : eAhead D e g = true := by rw [eAhead_iff] at *; omega
theorem eAhead_irr (D : Nat → Nat → Int) (e : Eg) : eAhead D e e = false := by
  rcases h : eAhead D e e with _ | _
  · rfl
  · rw [eAhead_iff] at h; omega
theorem eAhead_or {D : Nat → Nat → Int} {e f : Eg} (hne : e ≠ f) : eAhead D e f = true ∨ eAhead D f e = true := by
  rw [eAhead_iff, eAhead_iff]
  have : ¬ (e.1 = f.1 ∧ e.2 = f.2) := fun h => hne (Prod.ext h.1 h.2)
  omega
theorem eAhead_not {D : Nat → Nat → Int} {e f : Eg} (h : eAhead D e f = false) : e = f ∨ eAhead D f e = true := by
  by_cases hne : e = f
  · exact Or.inl hne
  · rcases eAhead_or (D := D) hne with h' | h'
    · rw [h'] at h; cases h
    · exact Or.inr h'
/-- Strictly in order. -/
def Ord12 (D : Nat → Nat → Int) (S : List Eg) : Prop := S.Pairwise (fun e f => eAhead D e f = true)
theorem Ord12.asc {D : Nat → Nat → Int} {S : List Eg} (h : Ord12 D S) : Asc D S := h.imp (fun {e f} h => by rw [eAhead_iff] at h; omega)
theorem Ord12.nodup {D : Nat → Nat → Int} {S : List Eg} (h : Ord12 D S) : S.Nodup := h.imp (fun {e f} h e' => by rw [e', eAhead_irr] at h; cases h)
/-- Two lists in order with the same ones are one. -/
theorem ord_unique {D : Nat → Nat → Int} : ∀ {S R : List Eg}, Ord12 D S → Ord12 D R → (∀ e, e ∈ S ↔ e ∈ R) → S = R
  | [], [], _, _, _ => rfl
  | [], r :: R, _, _, h => by have := (h r).2 (List.mem_cons_self ..); simp at this
  | s :: S, [], _, _, h => by have := (h s).1 (List.mem_cons_self ..); simp at this
  | s :: S, r :: R, h1, h2, h => by
    have p1 := List.pairwise_cons.1 h1
    have p2 := List.pairwise_cons.1 h2
    have e : s = r := by
      rcases List.mem_cons.1 ((h s).1 (List.mem_cons_self ..)) with e | e
      · exact e
      · rcases List.mem_cons.1 ((h r).2 (List.mem_cons_self ..)) with e' | e'
        · exact e'.symm
        · have a := p2.1 s e
          have b := p1.1 r e'
          have c := eAhead_trans a b
          rw [eAhead_irr] at c; cases c
    subst e
    congr 1
    refine ord_unique p1.2 p2.2 (fun x => ?_)
    have n1 : s ∉ S := fun hs => by have := p1.1 s hs; rw [eAhead_irr] at this; cases this
    have n2 : s ∉ R := fun hs => by have := p2.1 s hs; rw [eAhead_irr] at this; cases this
    constructor
    · intro hx
      rcases List.mem_cons.1 ((h x).1 (List.mem_cons_of_mem _ hx)) with e | e
      · subst e; exact absurd hx n1
      · exact e
    · intro hx
      rcases List.mem_cons.1 ((h x).2 (List.mem_cons_of_mem _ hx)) with e | e
      · subst e; exact absurd hx n2
      · exact e
/-- How many of the first ones are ahead of t; put in behind them. -/
def posE (D : Nat → Nat → Int) (t : Eg) : List Eg → Nat
  | [] => 0
  | e :: S => if eAhead D e t = true then posE D t S + 1 else 0
def insE (D : Nat → Nat → Int) (S : List Eg) (t : Eg) : List Eg := S.take (posE D t S) ++ t :: S.drop (posE D t S)
theorem posE_le (D : Nat → Nat → Int) (t : Eg) (S : List Eg) : posE D t S ≤ S.length := by
  induction S with
  | nil => simp [posE]
  | cons e S ih => simp only [posE]; split <;> simp <;> omega
theorem posE_at (D : Nat → Nat → Int) (t : Eg) (S : List Eg) : (∀ i (h : i < S.length), i < posE D t S → eAhead D S[i] t = true) ∧ (∀ h : posE D t S < S.length, eAhead D S[posE D t S] t = false) := by
  induction S with
  | nil => exact ⟨fun i h => by simp at h, fun h => by simp at h⟩
  | cons e S ih =>
    by_cases he : eAhead D e t = true
    · have ep : posE D t (e :: S) = posE D t S + 1 := by simp only [posE]; rw [if_pos he]
      refine ⟨fun i h hi => ?_, fun h => ?_⟩
      · cases i with
        | zero => exact he
        | succ i => rw [ep] at hi; simp only [List.getElem_cons_succ]; exact ih.1 i (by simpa using h) (by omega)
      · simp only [ep, List.getElem_cons_succ]
        exact ih.2 (by rw [ep] at h; simpa using h)
    · have ep : posE D t (e :: S) = 0 := by simp only [posE]; rw [if_neg he]
      refine ⟨fun i h hi => by rw [ep] at hi; omega, fun h => ?_⟩
      simp only [ep, List.getElem_cons_zero]
      rcases h' : eAhead D e t with _ | _
      · rfl
      · exact absurd h' he
theorem mem_insE (D : Nat → Nat → Int) (S : List Eg) (t e : Eg) : e ∈ insE D S t ↔ e = t ∨ e ∈ S := by
  unfold insE
  rw [List.mem_append, List.mem_cons]
  have h : e ∈ S ↔ e ∈ S.take (posE D t S) ∨ e ∈ S.drop (posE D t S) := by rw [← List.mem_append, List.take_append_drop]
  rw [h]
  constructor
  · rintro (h | h | h)
    · exact Or.inr (Or.inl h)
    · exact Or.inl h
    · exact Or.inr (Or.inr h)
  · rintro (h | h | h)
    · exact Or.inr (Or.inl h)
    · exact Or.inl h
    · exact Or.inr (Or.inr h)
theorem ord_ins {D : Nat → Nat → Int} {S : List Eg} (h : Ord12 D S) {t : Eg} (ht : t ∉ S) : Ord12 D (insE D S t) := by
  obtain ⟨p1, p2⟩ := posE_at D t S
  have hsp : Ord12 D (S.take (posE D t S) ++ S.drop (posE D t S)) := by rw [List.take_append_drop]; exact h
  obtain ⟨s1, s2, s3⟩ := List.pairwise_append.1 hsp
  have hpre : ∀ e ∈ S.take (posE D t S), eAhead D e t = true := fun e he => by
    obtain ⟨i, hi, rfl⟩ := List.getElem_of_mem he
    rw [List.getElem_take]
    have hi' := hi
    rw [List.length_take] at hi'
    exact p1 i (by omega) (by omega)
  have hpost : ∀ e ∈ S.drop (posE D t S), eAhead D t e = true := fun e he => by
    obtain ⟨i, hi, rfl⟩ := List.getElem_of_mem he
    rw [List.length_drop] at hi
    have hlt : posE D t S < S.length := by omega
    have h1 : eAhead D t S[posE D t S] = true := by
      rcases eAhead_not (p2 hlt) with e | e
      · exact absurd (by rw [← e]; exact List.getElem_mem hlt) ht
      · exact e
    rw [List.getElem_drop]
    cases i with
    | zero => exact h1
    | succ i => exact eAhead_trans h1 ((List.pairwise_iff_getElem.1 h) _ _ hlt (by omega) (by omega))
  refine List.pairwise_append.2 ⟨s1, List.pairwise_cons.2 ⟨hpost, s2⟩, fun a ha b hb => ?_⟩
  rcases List.mem_cons.1 hb with e | e
  · rw [e]; exact hpre a ha
  · exact s3 a ha b e
/-- All pairs, row by row; all pairs in order. -/
def rowE (i k : Nat) : List Eg := (List.range' (i + 1) (k - (i + 1))).map (fun j => (i, j))
def pairsTo (n : Nat) : Nat → List Eg
  | 0 => []
  | i + 1 => pairsTo n i ++ rowE i n
def srtOf (D : Nat → Nat → Int) (L : List Eg) : List Eg := L.foldl (insE D) []
def srtE (D : Nat → Nat → Int) (n : Nat) : List Eg := srtOf D (pairsTo n n)
theorem mem_rowE (i k : Nat) (e : Eg) : e ∈ rowE i k ↔ e.1 = i ∧ i < e.2 ∧ e.2 < k := by
  unfold rowE
  rw [List.mem_map]
  constructor
  · rintro ⟨j, hj, rfl⟩
    have := List.mem_range'_1.1 hj
    exact ⟨rfl, by omega, by omega⟩
  · rintro ⟨h1, h2, h3⟩
    exact ⟨e.2, List.mem_range'_1.2 ⟨by omega, by omega⟩, Prod.ext h1.symm rfl⟩
theorem mem_pairs (n m : Nat) (e : Eg) : e ∈ pairsTo n m ↔ e.1 < m ∧ e.1 < e.2 ∧ e.2 < n := by
  induction m with
  | zero => simp [pairsTo]
  | succ m ih =>
    simp only [pairsTo]
    rw [List.mem_append, ih, mem_rowE]
    omega
theorem rowE_nodup (i k : Nat) : (rowE i k).Nodup := by
  unfold rowE
  refine List.Pairwise.map _ (fun a b h e => ?_) (List.nodup_range' (s := i + 1) (n := k - (i + 1)))
  exact h (by injection e)
theorem pairs_nodup (n m : Nat) : (pairsTo n m).Nodup := by
  induction m with
  | zero => simp [pairsTo]
  | succ m ih =>
    simp only [pairsTo]
    rw [List.nodup_append]
    refine ⟨ih, rowE_nodup m n, fun a ha b hb e => ?_⟩
    have h1 := (mem_pairs n m a).1 ha
    have h2 := (mem_rowE m n b).1 hb
    rw [e] at h1
    omega
theorem srt_ok (D : Nat → Nat → Int) (L : List Eg) (hd : L.Nodup) : Ord12 D (srtOf D L) ∧ ∀ e, e ∈ srtOf D L ↔ e ∈ L := by
  revert hd
  refine snoc_ind (P := fun L => L.Nodup → Ord12 D (srtOf D L) ∧ ∀ e, e ∈ srtOf D L ↔ e ∈ L) (fun _ => ⟨List.Pairwise.nil, fun e => Iff.rfl⟩) (fun L t ih hd => ?_) L
  obtain ⟨hd1, -, hd3⟩ := List.nodup_append.1 hd
  obtain ⟨h1, h2⟩ := ih hd1
  have e1 : srtOf D (L ++ [t]) = insE D (srtOf D L) t := by unfold srtOf; rw [List.foldl_append]; rfl
  have ht : t ∉ srtOf D L := fun h => hd3 t ((h2 t).1 h) t (by simp) rfl
  rw [e1]
  refine ⟨ord_ins h1 ht, fun e => ?_⟩
  rw [mem_insE, h2 e, List.mem_append]
  simp
  exact Or.comm
theorem srtE_ord (D : Nat → Nat → Int) (n : Nat) : Ord12 D (srtE D n) := (srt_ok D _ (pairs_nodup n n)).1
theorem mem_srtE (D : Nat → Nat → Int) (n : Nat) (e : Eg) : e ∈ srtE D n ↔ e.1 < e.2 ∧ e.2 < n := by
  unfold srtE
  rw [(srt_ok D _ (pairs_nodup n n)).2 e, mem_pairs]
  omega
/-- The threads of n. -/
def thrE (D : Nat → Nat → Int) (n : Nat) : List Eg := kruF (srtE D n)
theorem srtE_lt {D : Nat → Nat → Int} {n : Nat} : ∀ e ∈ srtE D n, e.1 < n ∧ e.2 < n := fun e he => by have := (mem_srtE D n e).1 he; omega
theorem thrE_len {D : Nat → Nat → Int} {n : Nat} (hn : 0 < n) : (thrE D n).length + 1 = n := (kru_span hn srtE_lt (fun _ h1 h2 => (mem_srtE D n _).2 ⟨h1, h2⟩)).2
theorem thrE_tied {D : Nat → Nat → Int} {n : Nat} (hn : 0 < n) : ∀ i, i < n → lab (thrE D n) i = lab (thrE D n) 0 := (kru_span hn srtE_lt (fun _ h1 h2 => (mem_srtE D n _).2 ⟨h1, h2⟩)).1
theorem thrE_mem {D : Nat → Nat → Int} {n : Nat} {e : Eg} (h : e ∈ thrE D n) : e.1 < e.2 ∧ e.2 < n := (mem_srtE D n e).1 ((kru_sub _).subset h)
theorem thrE_ord (D : Nat → Nat → Int) (n : Nat) : Ord12 D (thrE D n) := (srtE_ord D n).sublist (kru_sub _)
/-- Kruskal, told whole. -/
theorem thrE_least {D : Nat → Nat → Int} {n : Nat} (hW : ∀ i j, 0 ≤ D i j ∧ D i j ≤ 16000000) (b : List Eg) (hb : ∀ e ∈ b, e.1 < e.2 ∧ e.2 < n) (hbl : b.length + 1 = n) (hbc : ∀ i, i < n → lab b i = lab b 0) : sumW D (thrE D n) ≤ sumW D b :=
  (kru_least (srtE_ord D n).asc srtE_lt (fun _ _ => hW _ _) b (fun e he => (mem_srtE D n e).2 (hb e he)) hbl hbc).2

end Go.Proofs.Ytfbindjacmaeoaa
