/-
  How the program links, as plain lists.
-/
import Derived.Test.YtbmljcpeonopmaaMathZz
import Derived.Test.YtbmljcpeonopmaaLkBlkZz
namespace Go.Proofs.Ytbmljcpeonopmaa
open Go

theorem insI_last {l : List Int} {x : Int} (h : ∀ y ∈ l, y < x) : insI l x = l ++ [x] := by
  induction l with
  | nil => rfl
  | cons a l ih =>
    have h1 := h a (by simp)
    simp only [insI]
    rw [if_pos (by omega)] <;> first | (rw [ih (fun y hy => h y (by simp [hy]))]; rfl) | skip
/-- The lists behind the first t of those that are near. -/
def lkX (ms : List Mk) (ls : List (List Int)) (ids : List Int) (x : Int) (t i : Nat) : List Int := if i < ms.length then lnkI ms ls (ids.take t) x i else ownI (ids.take t)
theorem lkX_start {ms : List Mk} {ls : List (List Int)} (hl : ls.length = ms.length) (ids : List Int) (x : Int) {i : Nat} (hi : i < ms.length + 1) : cn (ls ++ [[]]) i = lkX ms ls ids x 0 i := by
  unfold lkX
  by_cases h : i < ms.length
  · rw [if_pos h]
    simp [lnkI, hasB, cn, List.getD, List.getElem?_append_left (show i < ls.length by omega)]
  · rw [if_neg h]
    obtain rfl : i = ms.length := by omega
    simp [ownI, cn, List.getD, ← hl]
theorem lkX_end (ms : List Mk) (ls : List (List Int)) (ids : List Int) (x : Int) {i : Nat} (hi : i < ms.length + 1) : lkX ms ls ids x ids.length i = cn (lnkL ms ls ids x) i := by
  unfold lkX
  rw [List.take_length]
  by_cases h : i < ms.length
  · rw [if_pos h, lnkL_at h]
  · rw [if_neg h, show i = ms.length by omega, lnkL_last]
theorem snoc_lt {ms : List Mk} {m : Mk} (hm : marksB (ms ++ [m]) = true) : ∀ j, j < ms.length → mid ms j < m.1 := by
  have key : ∀ k, k ≤ ms.length → ∀ j, j < k → mid (ms ++ [m]) j < mid (ms ++ [m]) k := by
    intro k
    induction k with
    | zero => intro _ j hj; omega
    | succ k ih =>
      intro hk j hj
      have h1 := ((mOkAt_iff _ _).1 (marksB_at hm (i := k + 1) (by simp; omega))).2.2.2.2
      rcases h1 with h1 | h1
      · omega
      · rw [show k + 1 - 1 = k by omega] at h1
        rcases Nat.lt_or_ge j k with e | e
        · have := ih (by omega) j e; omega
        · rw [show j = k by omega]; exact h1
  intro j hj
  have := key ms.length (Nat.le_refl _) j hj
  rw [mid_snoc hj, mid_last] at this
  exact this
theorem snoc_find {ms : List Mk} {m : Mk} (hm : marksB (ms ++ [m]) = true) {j : Nat} (hj : j < ms.length) : 0 ≤ zFind (ms ++ [m]) (mid ms j) ∧ zIdx (ms ++ [m]) (mid ms j) = j := by
  have := zFind_mid hm (i := j) (by simp; omega)
  rw [mid_snoc hj] at this
  exact ⟨by omega, this.2⟩
theorem snoc_last {ms : List Mk} {m : Mk} (hm : marksB (ms ++ [m]) = true) : 0 ≤ zFind (ms ++ [m]) m.1 ∧ zIdx (ms ++ [m]) m.1 = ms.length := by
  have := zFind_mid hm (i := ms.length) (by simp)
  rw [mid_last] at this
  exact ⟨by omega, this.2⟩
/-- One step: what is asked of both links, and what they come to. -/
theorem lkX_step {ms : List Mk} {ls : List (List Int)} {m : Mk} (hw : webB ms ls = true) (hm : marksB (ms ++ [m]) = true) {ids : List Int} (hd : ids.Nodup) (hf : ∀ y ∈ ids, 0 ≤ zFind ms y) {t : Nat} (ht : t < ids.length) :
    ∃ j, j < ms.length ∧ nth ids t = mid ms j ∧ lkX ms ls ids m.1 t j = cn ls j ∧ (cn ls j).Pairwise (fun a b => a < b) ∧ m.1 ∉ cn ls j ∧ (cn ls j).length ≤ 60 ∧ (ownI (ids.take t)).Pairwise (fun a b => a < b) ∧ nth ids t ∉ ownI (ids.take t) ∧ (ownI (ids.take t)).length ≤ 60 ∧
      ∀ i, updX (updX (lkX ms ls ids m.1 t) j (insI (cn ls j) m.1)) ms.length (insI (ownI (ids.take t)) (nth ids t)) i = lkX ms ls ids m.1 (t + 1) i ∨ ms.length < i := by
  have hmem : nth ids t ∈ ids := by simp [nth, List.getD, ht]
  obtain ⟨a, b, c⟩ := zIdx_lt (hf _ hmem)
  have hms := web_marks hw
  have h60 := marksB_len hms
  have hnt := nodup_take hd ht
  have hlt : ∀ y ∈ cn ls (zIdx ms (nth ids t)), y < m.1 := fun y hy => by
    obtain ⟨h1, h2, h3, -⟩ := web_link hw a hy
    have := snoc_lt hm _ h2
    rw [h3] at this
    exact this
  have hlk : lnkI ms ls (ids.take t) m.1 (zIdx ms (nth ids t)) = cn ls (zIdx ms (nth ids t)) := by
    unfold lnkI
    rw [if_neg]
    rw [c, hasB_iff]
    exact hnt
  refine ⟨zIdx ms (nth ids t), a, c.symm, by unfold lkX; rw [if_pos a, hlk], rise_pairs (web_rise hw a), fun h => by have := hlt _ h; omega, by have := links_short hw a; omega, (ownI_fold _ [] List.Pairwise.nil).1, by rw [ownI_mem]; exact hnt, ?_, fun i => ?_⟩
  · have h1 := fold_len14 (ids.take t) []
    have h2 := ids_short hd hf
    unfold ownI
    simp at h1
    omega
  · rcases Nat.lt_or_ge ms.length i with h | h
    · exact Or.inr h
    · left
      unfold updX lkX
      by_cases e1 : i = ms.length
      · rw [if_pos e1, if_neg (by omega)]
        unfold ownI
        rw [List.take_add_one, List.getElem?_eq_getElem ht, List.foldl_append]
        simp [nth, List.getD, ht]
      · have hi : i < ms.length := by omega
        rw [if_neg e1]
        by_cases e2 : i = zIdx ms (nth ids t)
        · rw [if_pos e2, if_pos hi, insI_last hlt, e2]
          unfold lnkI
          rw [if_pos]
          rw [c, hasB_iff, take_mem ht]
          exact Or.inr rfl
        · rw [if_neg e2, if_pos hi, if_pos hi]
          unfold lnkI
          have : hasB (ids.take (t + 1)) (mid ms i) = hasB (ids.take t) (mid ms i) := by
            rw [Bool.eq_iff_iff, hasB_iff, hasB_iff, take_mem ht]
            constructor
            · rintro (h1 | h1)
              · exact h1
              · exfalso
                apply e2
                rw [← h1, (zFind_mid hms hi).2]
            · exact Or.inl
          rw [this]
end Go.Proofs.Ytbmljcpeonopmaa
