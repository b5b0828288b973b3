/-
  What is asked of a tower, as plain lists: from web to web down.
-/
import Derived.Test.YtfbhohpbhjlihaaGreatTwOkZz
import Derived.Test.YtfbhohpbhjlihaaGreatMathZz
namespace Go.Proofs.YtfbhohpbhjlihaaGreat
open Go Go.RowKit

def lastI (l : List Int) : Int := nth l (l.length - 1)
def dstep (t : Wb) (q : List Int) (fr : Int) : Int := if t.1.length = 0 then fr else lastI (walkG t.1 t.2 q (if fr = 0 then mid t.1 0 else fr))
/-- Where one is behind the highest k webs (0: nowhere yet). -/
def descT (ts : List Wb) (q : List Int) : Nat → Int
  | 0 => 0
  | k + 1 => dstep (wnth ts (3 - k)) q (descT ts q k)
/-- Where one is ahead of web n. -/
def curD (ts : List Wb) (q : List Int) (n : Nat) : Int := if descT ts q (3 - n) = 0 then mid (wnth ts n).1 0 else descT ts q (3 - n)
def maxK (k : Int) : Int := if k < 4 then 4 else k
def askG (ts : List Wb) (q : List Int) (k : Int) : List Ht := (beamL (wnth ts 0).1 (wnth ts 0).2 (curD ts q 0) q (maxK k)).take k.toNat
def askL (d : Int) (ts : List Wb) (q : List Int) (k : Int) : List Ht := if towB d ts = true ∧ toldB (wnth ts 0).1 q = true ∧ countB k = true then askG ts q k else []

theorem tow_at {d : Int} {ts : List Wb} (h : towB d ts = true) : ts.length = 4 ∧ ∀ n, n < 4 → towAt ts n = true := by
  simp only [towB, Bool.and_eq_true, List.all_eq_true, List.mem_range, decide_eq_true_eq] at h
  exact ⟨h.2.1, h.2.2⟩
theorem tow_web {d : Int} {ts : List Wb} (h : towB d ts = true) {n : Nat} (hn : n < 4) : webB (wnth ts n).1 (wnth ts n).2 = true := towAt_web' ((tow_at h).2 n hn)
theorem tow_bear {d : Int} {ts : List Wb} (h : towB d ts = true) {n : Nat} (hn : n < 3) : bearB (wnth ts n).1 (wnth ts (n + 1)).1 = true := by
  have := (tow_at h).2 (n + 1) (by omega)
  rw [towAt, Bool.and_eq_true] at this
  simpa using this.2
theorem bear_like {lo hi : List Mk} (h : bearB lo hi = true) {k : Nat} (hk : k < hi.length) : 0 ≤ zFind lo (mid hi k) ∧ mat lo (zIdx lo (mid hi k)) = mat hi k := by
  rw [bearB, List.all_eq_true] at h
  exact likeB_iff.1 (h _ (mnth_mem15 hk))
theorem bear_find {lo hi : List Mk} (h : bearB lo hi = true) {x : Int} (hx : 0 ≤ zFind hi x) : 0 ≤ zFind lo x := by
  obtain ⟨a, -, c⟩ := zIdx_lt hx
  have := (bear_like h a).1
  rw [c] at this
  exact this
theorem bear_empty {lo hi : List Mk} (h : bearB lo hi = true) (h0 : lo.length = 0) : hi.length = 0 := by
  rcases Nat.eq_zero_or_pos hi.length with e | e
  · exact e
  · have := (zIdx_lt (bear_like h e).1).1
    omega
theorem bear_told {lo hi : List Mk} {q : List Int} (h : bearB lo hi = true) (hm : marksB hi = true) (ht : toldB lo q = true) : toldB hi q = true := by
  simp only [toldB, Bool.and_eq_true, Bool.or_eq_true, decide_eq_true_eq] at ht ⊢
  refine ⟨⟨hm, ht.1.2⟩, ?_⟩
  rcases Nat.eq_zero_or_pos hi.length with e | e
  · exact Or.inl e
  · right
    obtain ⟨h1, h2⟩ := bear_like h e
    have h3 := (zIdx_lt h1).1
    rw [← h2, ((mOkAt_iff _ _).1 (marksB_at ht.1.1 h3)).2.2.2.1]
    rcases ht.2 with h4 | h4
    · omega
    · exact h4
theorem find_pos {ms : List Mk} (hm : marksB ms = true) {x : Int} (hx : 0 ≤ zFind ms x) : 1 ≤ x := by
  obtain ⟨a, -, c⟩ := zIdx_lt hx
  have := (mOkAt_iff _ _).1 (marksB_at hm a)
  rw [c] at this
  exact this.1
theorem find_first {ms : List Mk} (hm : marksB ms = true) (h : 0 < ms.length) : 0 ≤ zFind ms (mid ms 0) := by
  have := (zFind_mid hm h).1
  omega
theorem walk_last {ms : List Mk} {ls : List (List Int)} {q : List Int} {fr : Int} (ht : toldW ms ls fr q = true) : 0 < (walkG ms ls q fr).length ∧ 0 ≤ zFind ms (lastI (walkG ms ls q fr)) := by
  obtain ⟨-, h1, h2⟩ := walkL_at ht
  have e : walkL ms ls fr q = walkG ms ls q fr := by unfold walkL; rw [if_pos ht]
  rw [e] at h1 h2
  exact ⟨h1, (h2 _ (by omega)).1⟩
/-- All that a right tower and a place of its width tell of each web. -/
theorem tow_told {d : Int} {ts : List Wb} {q : List Int} (h : towB d ts = true) (ht : toldB (wnth ts 0).1 q = true) : ∀ n, n < 4 → toldB (wnth ts n).1 q = true := by
  intro n
  induction n with
  | zero => intro _; exact ht
  | succ n ih => intro hn; exact bear_told (tow_bear h (by omega)) (web_marks (tow_web h hn)) (ih (by omega))
theorem desc_in {d : Int} {ts : List Wb} {q : List Int} (h : towB d ts = true) (ht : toldB (wnth ts 0).1 q = true) : ∀ k, k ≤ 3 → descT ts q k = 0 ∨ (1 ≤ k ∧ 0 ≤ zFind (wnth ts (4 - k)).1 (descT ts q k)) := by
  intro k
  induction k with
  | zero => intro _; exact Or.inl rfl
  | succ k ih =>
    intro hk
    have hw := tow_web h (n := 3 - k) (by omega)
    have hto := tow_told h ht (3 - k) (by omega)
    have e4 : 4 - (k + 1) = 3 - k := by omega
    rw [e4]
    simp only [descT, dstep]
    by_cases h0 : (wnth ts (3 - k)).1.length = 0
    · rw [if_pos h0]
      rcases ih (by omega) with e | ⟨e1, e2⟩
      · exact Or.inl e
      · exfalso
        have hb := tow_bear h (n := 3 - k) (by omega)
        have := bear_find hb (x := descT ts q k) (by rw [show 3 - k + 1 = 4 - k by omega]; exact e2)
        have := (zIdx_lt this).1
        omega
    · rw [if_neg h0]
      right
      refine ⟨by omega, (walk_last ?_).2⟩
      rw [toldW_iff]
      refine ⟨hw, hto, ?_⟩
      split
      · exact find_first (web_marks hw) (by omega)
      · rename_i hne
        rcases ih (by omega) with e | ⟨e1, e2⟩
        · exact absurd e hne
        · exact bear_find (tow_bear h (n := 3 - k) (by omega)) (by rw [show 3 - k + 1 = 4 - k by omega]; exact e2)
theorem cur_in {d : Int} {ts : List Wb} {q : List Int} (h : towB d ts = true) (ht : toldB (wnth ts 0).1 q = true) {n : Nat} (hn : n ≤ 3) (h0 : 0 < (wnth ts n).1.length) : toldW (wnth ts n).1 (wnth ts n).2 (curD ts q n) q = true := by
  rw [toldW_iff]
  refine ⟨tow_web h (by omega), tow_told h ht n (by omega), ?_⟩
  unfold curD
  split
  · exact find_first (web_marks (tow_web h (by omega))) h0
  · rename_i hne
    rcases desc_in h ht (3 - n) (by omega) with e | ⟨e1, e2⟩
    · exact absurd e hne
    · exact bear_find (tow_bear h (n := n) (by omega)) (by rw [show n + 1 = 4 - (3 - n) by omega]; exact e2)
theorem cur_step {d : Int} {ts : List Wb} {q : List Int} (h : towB d ts = true) (ht : toldB (wnth ts 0).1 q = true) {n : Nat} (hn : n < 3) (h0 : 0 < (wnth ts (n + 1)).1.length) : curD ts q n = lastI (walkG (wnth ts (n + 1)).1 (wnth ts (n + 1)).2 q (curD ts q (n + 1))) ∧ descT ts q (3 - n) = lastI (walkG (wnth ts (n + 1)).1 (wnth ts (n + 1)).2 q (curD ts q (n + 1))) := by
  have e : descT ts q (3 - n) = lastI (walkG (wnth ts (n + 1)).1 (wnth ts (n + 1)).2 q (curD ts q (n + 1))) := by
    rw [show 3 - n = (3 - (n + 1)) + 1 by omega]
    simp only [descT, dstep]
    rw [show 3 - (3 - (n + 1)) = n + 1 by omega, if_neg (by omega)]
    rfl
  refine ⟨?_, e⟩
  have hl := walk_last (cur_in h ht (n := n + 1) (by omega) h0)
  have hp := find_pos (web_marks (tow_web h (n := n + 1) (by omega))) hl.2
  unfold curD at *
  rw [e, if_neg (by omega)]
theorem desc_skip {ts : List Wb} {q : List Int} {n : Nat} (hn : n < 3) (h0 : (wnth ts (n + 1)).1.length = 0) : descT ts q (3 - n) = descT ts q (3 - (n + 1)) := by
  rw [show 3 - n = (3 - (n + 1)) + 1 by omega]
  simp only [descT, dstep]
  rw [show 3 - (3 - (n + 1)) = n + 1 by omega, if_pos h0]
/-- The highest web with marks. -/
def peakTo (ts : List Wb) : Nat → Nat
  | 0 => 0
  | f + 1 => if 0 < (wnth ts (3 - f)).1.length then 3 - f else peakTo ts f
theorem empty_up {d : Int} {ts : List Wb} (h : towB d ts = true) {n : Nat} (h0 : (wnth ts n).1.length = 0) : ∀ j, n + j < 4 → (wnth ts (n + j)).1.length = 0 := by
  intro j
  induction j with
  | zero => intro _; exact h0
  | succ j ih => intro hj; exact bear_empty (tow_bear h (n := n + j) (by omega)) (ih (by omega))
theorem cur_peak {d : Int} {ts : List Wb} {q : List Int} (h : towB d ts = true) {p : Nat} (hp : p ≤ 3) (hup : p < 3 → (wnth ts (p + 1)).1.length = 0) : curD ts q p = mid (wnth ts p).1 0 := by
  have hz : ∀ k, k ≤ 3 - p → descT ts q k = 0 := by
    intro k
    induction k with
    | zero => intro _; rfl
    | succ k ih =>
      intro hk
      have he : (wnth ts (3 - k)).1.length = 0 := by
        have := empty_up h (hup (by omega)) (3 - k - (p + 1)) (by omega)
        rw [show p + 1 + (3 - k - (p + 1)) = 3 - k by omega] at this
        exact this
      simp only [descT, dstep]
      rw [if_pos he]
      exact ih (by omega)
  unfold curD
  rw [if_pos (hz _ (Nat.le_refl _))]
theorem maxK_ok {k : Int} (h : countB k = true) : countB (maxK k) = true ∧ 4 ≤ maxK k ∧ 1 ≤ k ∧ k ≤ 60 := by
  simp only [countB, Bool.and_eq_true, decide_eq_true_eq] at h ⊢
  unfold maxK
  split <;> omega
theorem askL_yes {d : Int} {ts : List Wb} {q : List Int} {k : Int} (h1 : towB d ts = true) (h2 : toldB (wnth ts 0).1 q = true) (h3 : countB k = true) : askL d ts q k = askG ts q k := by unfold askL; rw [if_pos ⟨h1, h2, h3⟩]
theorem askL_no {d : Int} {ts : List Wb} {q : List Int} {k : Int} (h : towB d ts = false ∨ toldB (wnth ts 0).1 q = false ∨ countB k = false) : askL d ts q k = [] := by
  unfold askL
  rw [if_neg]
  rintro ⟨h1, h2, h3⟩
  rcases h with h | h | h
  · rw [h1] at h; cases h
  · rw [h2] at h; cases h
  · rw [h3] at h; cases h
theorem askG_none {ts : List Wb} {q : List Int} {k : Int} (h0 : (wnth ts 0).1.length = 0) : askG ts q k = [] := by
  have : beamL (wnth ts 0).1 (wnth ts 0).2 (curD ts q 0) q (maxK k) = [] := by
    unfold beamL
    rw [if_neg]
    rintro ⟨ht, -⟩
    have := (zIdx_lt ((toldW_iff _ _ _ _).1 ht).2.2).1
    omega
  unfold askG
  rw [this]
  simp
theorem askG_some {d : Int} {ts : List Wb} {q : List Int} {k : Int} (h1 : towB d ts = true) (h2 : toldB (wnth ts 0).1 q = true) (h3 : countB k = true) (h0 : 0 < (wnth ts 0).1.length) : askG ts q k = (beamG (wnth ts 0).1 (wnth ts 0).2 q (maxK k).toNat [hitOf (wnth ts 0).1 q (curD ts q 0)] [curD ts q 0] []).take k.toNat := by
  unfold askG beamL
  rw [if_pos ⟨cur_in h1 h2 (Nat.zero_le _) h0, (maxK_ok h3).1⟩]
end Go.Proofs.YtfbhohpbhjlihaaGreat
