/-
  Plain mathematics for the laws of chapter 11 (no program is named here): the least distance to some, the radius, who is chosen, and Gonzalez' bound.
-/
import Derived.Test.YtfbindjacmaeoaaMarks
namespace Go.Proofs.Ytfbindjacmaeoaa

/-- The least so far (none: below 0), and one more. -/
def zStep (n d : Int) : Int := if n < 0 ∨ d < n then d else n
/-- The least D of i to those of C; -1 of none. -/
def zNear (D : Nat → Nat → Int) (i : Nat) (C : List Nat) : Int := C.foldl (fun n c => zStep n (D i c)) (-1)
def zRad (D : Nat → Nat → Int) (n : Nat) (C : List Nat) : Int := maxTo (fun i => zNear D i C) n
/-- Of the first m the one not in C whose least is greatest, the first of alike ones. -/
def zArg (D : Nat → Nat → Int) (C : List Nat) : Nat → Option Nat
  | 0 => none
  | m + 1 => if m ∈ C then zArg D C m else match zArg D C m with
    | none => some m
    | some b => if zNear D b C < zNear D m C then some m else some b
def zCho (D : Nat → Nat → Int) (n : Nat) : Nat → List Nat
  | 0 => []
  | t + 1 => if t = 0 then [0] else zCho D n t ++ [(zArg D (zCho D n t) n).getD 0]

theorem zNear_fold (D : Nat → Nat → Int) (i : Nat) (h : ∀ c, 0 ≤ D i c) (C : List Nat) (a : Int) :
    (0 ≤ a → C.foldl (fun n c => zStep n (D i c)) a ≤ a) ∧ (∀ c ∈ C, C.foldl (fun n c => zStep n (D i c)) a ≤ D i c) ∧ (C.foldl (fun n c => zStep n (D i c)) a = a ∨ ∃ c ∈ C, C.foldl (fun n c => zStep n (D i c)) a = D i c) ∧ (a < 0 → C ≠ [] → 0 ≤ C.foldl (fun n c => zStep n (D i c)) a) ∧ (0 ≤ a → 0 ≤ C.foldl (fun n c => zStep n (D i c)) a) := by
  induction C generalizing a with
  | nil => exact ⟨fun _ => Int.le_refl _, fun c hc => by simp at hc, Or.inl rfl, fun _ h => absurd rfl h, fun h => h⟩
  | cons x C ih =>
    simp only [List.foldl_cons]
    have hx := h x
    obtain ⟨i1, i2, i3, i4, i5⟩ := ih (zStep a (D i x))
    have hs0 : 0 ≤ zStep a (D i x) := by unfold zStep; split <;> omega
    have hs1 : zStep a (D i x) ≤ D i x := by unfold zStep; split <;> omega
    have hs2 : 0 ≤ a → zStep a (D i x) ≤ a := fun ha => by unfold zStep; split <;> omega
    have i1' := i1 hs0
    refine ⟨fun ha => Int.le_trans i1' (hs2 ha), fun c hc => ?_, ?_, fun _ _ => i5 hs0, fun _ => i5 hs0⟩
    · rcases List.mem_cons.1 hc with e | e
      · rw [e]; exact Int.le_trans i1' hs1
      · exact i2 c e
    · rcases i3 with e | ⟨c, hc, e⟩
      · rw [e]
        unfold zStep
        split
        · exact Or.inr ⟨x, List.mem_cons_self .., rfl⟩
        · exact Or.inl rfl
      · exact Or.inr ⟨c, List.mem_cons_of_mem _ hc, e⟩
theorem zNear_le {D : Nat → Nat → Int} {i : Nat} (h : ∀ c, 0 ≤ D i c) {C : List Nat} {c : Nat} (hc : c ∈ C) : zNear D i C ≤ D i c := (zNear_fold D i h C (-1)).2.1 c hc
theorem zNear_pos {D : Nat → Nat → Int} {i : Nat} (h : ∀ c, 0 ≤ D i c) {C : List Nat} (hC : C ≠ []) : 0 ≤ zNear D i C := (zNear_fold D i h C (-1)).2.2.2.1 (by omega) hC
theorem zNear_at {D : Nat → Nat → Int} {i : Nat} (h : ∀ c, 0 ≤ D i c) {C : List Nat} (hC : C ≠ []) : ∃ c ∈ C, zNear D i C = D i c := by
  rcases (zNear_fold D i h C (-1)).2.2.1 with e | e
  · have := zNear_pos h hC
    unfold zNear at this
    omega
  · exact e
theorem zNear_more {D : Nat → Nat → Int} {i : Nat} (h : ∀ c, 0 ≤ D i c) {C E : List Nat} (hC : C ≠ []) (hs : ∀ c ∈ C, c ∈ E) : zNear D i E ≤ zNear D i C := by
  obtain ⟨c, hc, e⟩ := zNear_at h hC
  rw [e]
  exact zNear_le h (hs c hc)
theorem zNear_self {D : Nat → Nat → Int} {i : Nat} (h : ∀ c, 0 ≤ D i c) (h0 : D i i = 0) {C : List Nat} (hi : i ∈ C) : zNear D i C = 0 := by
  have h1 := zNear_le h hi
  have h2 := zNear_pos h (C := C) (fun e => by rw [e] at hi; simp at hi)
  omega
theorem zRad_ge {D : Nat → Nat → Int} {n i : Nat} (hi : i < n) (C : List Nat) : zNear D i C ≤ zRad D n C := maxTo_ge (fun i => zNear D i C) n i hi
theorem zRad_nn (D : Nat → Nat → Int) (n : Nat) (C : List Nat) : 0 ≤ zRad D n C := by
  unfold zRad
  induction n with
  | zero => simp [maxTo]
  | succ n ih => simp only [maxTo]; omega
theorem maxTo_at (f : Nat → Int) (n : Nat) (h : 0 < maxTo f n) : ∃ i, i < n ∧ f i = maxTo f n := by
  induction n with
  | zero => simp [maxTo] at h
  | succ n ih =>
    simp only [maxTo] at h ⊢
    by_cases e : maxTo f n ≤ f n
    · exact ⟨n, by omega, by omega⟩
    · obtain ⟨i, hi, e2⟩ := ih (by omega)
      exact ⟨i, by omega, by omega⟩
/-- More of them reach no farther. -/
theorem zRad_more {D : Nat → Nat → Int} (h : ∀ i c, 0 ≤ D i c) (n : Nat) {C E : List Nat} (hC : C ≠ []) (hs : ∀ c ∈ C, c ∈ E) : zRad D n E ≤ zRad D n C :=
  maxTo_lub _ n _ (zRad_nn D n C) (fun i hi => Int.le_trans (zNear_more (h i) hC hs) (zRad_ge hi C))
/-- All of them: nothing is apart. -/
theorem zRad_all {D : Nat → Nat → Int} (h : ∀ i c, 0 ≤ D i c) (h0 : ∀ i, D i i = 0) (n : Nat) {C : List Nat} (hs : ∀ i, i < n → i ∈ C) : zRad D n C = 0 := by
  have h1 := zRad_nn D n C
  have h2 : zRad D n C ≤ 0 := maxTo_lub _ n _ (by omega) (fun i hi => by rw [zNear_self (h i) (h0 i) (hs i hi)]; omega)
  omega

theorem zArg_spec (D : Nat → Nat → Int) (C : List Nat) (m : Nat) :
    match zArg D C m with
    | none => ∀ j, j < m → j ∈ C
    | some b => b < m ∧ b ∉ C ∧ (∀ j, j < m → j ∉ C → zNear D j C ≤ zNear D b C) ∧ (∀ j, j < b → j ∉ C → zNear D j C < zNear D b C) := by
  induction m with
  | zero => simp [zArg]
  | succ m ih =>
    simp only [zArg]
    by_cases hm : m ∈ C
    · rw [if_pos hm]
      rcases hz : zArg D C m with _ | b
      · rw [hz] at ih
        intro j hj
        rcases Nat.lt_or_ge j m with h | h
        · exact ih j h
        · rw [show j = m by omega]; exact hm
      · rw [hz] at ih
        obtain ⟨a1, a2, a3, a4⟩ := ih
        refine ⟨by omega, a2, fun j hj hn => ?_, a4⟩
        rcases Nat.lt_or_ge j m with h | h
        · exact a3 j h hn
        · exact absurd (by rw [show j = m by omega]; exact hm) hn
    · rw [if_neg hm]
      rcases hz : zArg D C m with _ | b
      · rw [hz] at ih
        refine ⟨by omega, hm, fun j hj hn => ?_, fun j hj hn => absurd (ih j hj) hn⟩
        rcases Nat.lt_or_ge j m with h | h
        · exact absurd (ih j h) hn
        · rw [show j = m by omega]; exact Int.le_refl _
      · rw [hz] at ih
        obtain ⟨a1, a2, a3, a4⟩ := ih
        by_cases hlt : zNear D b C < zNear D m C
        · simp only [hlt, if_true]
          refine ⟨by omega, hm, fun j hj hn => ?_, fun j hj hn => ?_⟩
          · rcases Nat.lt_or_ge j m with h | h
            · have := a3 j h hn; omega
            · rw [show j = m by omega]; exact Int.le_refl _
          · have := a3 j hj hn; omega
        · simp only [hlt, if_false]
          refine ⟨by omega, a2, fun j hj hn => ?_, a4⟩
          rcases Nat.lt_or_ge j m with h | h
          · exact a3 j h hn
          · rw [show j = m by omega]; omega
theorem zArg_some {D : Nat → Nat → Int} {C : List Nat} {m j : Nat} (hj : j < m) (hn : j ∉ C) : ∃ b, zArg D C m = some b := by
  have := zArg_spec D C m
  rcases hz : zArg D C m with _ | b
  · rw [hz] at this; exact absurd (this j hj) hn
  · exact ⟨b, rfl⟩
/-- Fewer than n are not all. -/
theorem zOut {C : List Nat} {n : Nat} (h : C.length < n) : ∃ j, j < n ∧ j ∉ C := by
  induction n generalizing C with
  | zero => omega
  | succ n ih =>
    by_cases hm : n ∈ C
    · obtain ⟨j, hj, hn⟩ := ih (C := C.erase n) (by rw [List.length_erase_of_mem hm]; have : 0 < C.length := List.length_pos_of_mem hm; omega)
      refine ⟨j, by omega, fun hc => hn ?_⟩
      exact (List.mem_erase_of_ne (by omega)).2 hc
    · exact ⟨n, by omega, hm⟩

theorem zCho_succ {D : Nat → Nat → Int} {n t : Nat} (ht : 0 < t) : zCho D n (t + 1) = zCho D n t ++ [(zArg D (zCho D n t) n).getD 0] := by
  simp only [zCho]
  rw [if_neg (by omega)]
theorem zCho_ok {D : Nat → Nat → Int} {n : Nat} (t : Nat) (ht : t ≤ n) : (zCho D n t).length = t ∧ (zCho D n t).Nodup ∧ ∀ c ∈ zCho D n t, c < n := by
  induction t with
  | zero => simp [zCho]
  | succ t ih =>
    obtain ⟨i1, i2, i3⟩ := ih (by omega)
    rcases Nat.eq_zero_or_pos t with h0 | h0
    · subst h0
      simp only [zCho, if_true]
      exact ⟨rfl, by simp, fun c hc => by simp at hc; omega⟩
    · rw [zCho_succ h0]
      obtain ⟨j, hj, hn⟩ := zOut (C := zCho D n t) (n := n) (by omega)
      obtain ⟨b, hb⟩ := zArg_some (D := D) hj hn
      have hs := zArg_spec D (zCho D n t) n
      rw [hb] at hs
      rw [hb]
      refine ⟨by simp [i1], ?_, fun c hc => ?_⟩
      · rw [List.nodup_append]
        refine ⟨i2, by simp, fun a ha c hc => ?_⟩
        simp at hc
        rw [hc]
        exact fun e => hs.2.1 (by rw [← e]; exact ha)
      · rcases List.mem_append.1 hc with h | h
        · exact i3 c h
        · simp at h; rw [h]; exact hs.1
/-- What was chosen stays chosen. -/
theorem zCho_pre {D : Nat → Nat → Int} {n t k : Nat} (htk : t ≤ k) : ∃ r, zCho D n k = zCho D n t ++ r := by
  induction k with
  | zero => exact ⟨[], by rw [show t = 0 by omega]; simp⟩
  | succ k ih =>
    rcases Nat.lt_or_ge t (k + 1) with h | h
    · obtain ⟨r, hr⟩ := ih (by omega)
      rcases Nat.eq_zero_or_pos k with h0 | h0
      · subst h0
        obtain rfl : t = 0 := by omega
        exact ⟨zCho D n 1, by simp [zCho]⟩
      · rw [zCho_succ h0, hr]
        exact ⟨r ++ [(zArg D (zCho D n t ++ r) n).getD 0], by simp⟩
    · exact ⟨[], by rw [show t = k + 1 by omega]; simp⟩
theorem zCho_take {D : Nat → Nat → Int} {n t k : Nat} (htk : t ≤ k) (hk : k ≤ n) : (zCho D n k).take t = zCho D n t := by
  obtain ⟨r, hr⟩ := zCho_pre (D := D) (n := n) htk
  have hl := (zCho_ok (D := D) (n := n) t (by omega)).1
  rw [hr, List.take_append_of_le_length (by omega), List.take_of_length_le (by omega)]
/-- Two of more than there are places have one place. -/
theorem zPigeon (f : Nat → Nat) (m : Nat) : ∀ (B : List Nat), B.length < m → (∀ s, s < m → f s ∈ B) → ∃ s t, s < t ∧ t < m ∧ f s = f t := by
  induction m with
  | zero => intro B h; omega
  | succ m ih =>
    intro B hB h
    by_cases hx : ∃ s, s < m ∧ f s = f m
    · obtain ⟨s, hs, e⟩ := hx
      exact ⟨s, m, hs, by omega, e⟩
    · have hm := h m (by omega)
      obtain ⟨s, t, h1, h2, h3⟩ := ih (B.erase (f m)) (by rw [List.length_erase_of_mem hm]; have : 0 < B.length := List.length_pos_of_mem hm; omega) (fun s hs => (List.mem_erase_of_ne (fun e => hx ⟨s, hs, e⟩)).2 (h s (by omega)))
      exact ⟨s, t, h1, by omega, h3⟩
theorem zCho_at {D : Nat → Nat → Int} {n k t : Nat} (h0 : 0 < t) (ht : t < k) (hk : k ≤ n) : (zCho D n k).getD t 0 = (zArg D (zCho D n t) n).getD 0 := by
  have h1 := zCho_take (D := D) (t := t + 1) (k := k) (n := n) (by omega) hk
  have hl := (zCho_ok (D := D) (n := n) t (by omega)).1
  have hk' := (zCho_ok (D := D) (n := n) k hk).1
  have e : (zCho D n k).getD t 0 = ((zCho D n k).take (t + 1)).getD t 0 := by simp [List.getD]
  rw [e, h1, zCho_succ h0]
  simp [List.getD, hl]
theorem zCho_mem {D : Nat → Nat → Int} {n k s t : Nat} (hs : s < t) (ht : t ≤ k) (hk : k ≤ n) : (zCho D n k).getD s 0 ∈ zCho D n t := by
  have h1 := zCho_take (D := D) (t := t) (k := k) (n := n) ht hk
  have hl := (zCho_ok (D := D) (n := n) t (by omega)).1
  have e : (zCho D n k).getD s 0 = ((zCho D n k).take t).getD s 0 := by simp [List.getD, hs]
  rw [e, h1]
  have : (zCho D n t).getD s 0 = (zCho D n t)[s]'(by omega) := by simp [List.getD, show s < (zCho D n t).length by omega]
  rw [this]
  exact List.getElem_mem _
theorem zCho_ne {D : Nat → Nat → Int} {n t : Nat} (h0 : 0 < t) (ht : t ≤ n) : zCho D n t ≠ [] := fun e => by
  have := (zCho_ok (D := D) (n := n) t ht).1
  rw [e] at this
  simp at this
  omega
/-- Gonzalez: who is chosen reaches at most twice as far as any other ones, as many (by the constant of the third side). -/
theorem zGonz {D : Nat → Nat → Int} {n k : Nat} {a : Int} (hnn : ∀ i c, 0 ≤ D i c) (h0 : ∀ i, D i i = 0) (ha : 0 ≤ a)
    (htri : ∀ i j b, i < n → j < n → b < n → D i j ≤ a * (D i b + D j b)) (hk : 1 ≤ k) (hkn : k ≤ n) (B : List Nat) (hBl : B.length ≤ k) (hB0 : B ≠ []) (hBn : ∀ b ∈ B, b < n) :
    zRad D n (zCho D n k) ≤ 2 * a * zRad D n B := by
  have hrB := zRad_nn D n B
  have hab : 0 ≤ 2 * a * zRad D n B := Int.mul_nonneg (by omega) hrB
  rcases Int.lt_or_le (2 * a * zRad D n B) (zRad D n (zCho D n k)) with hlt | hle
  · exfalso
    obtain ⟨x, hx, hR⟩ := maxTo_at (fun i => zNear D i (zCho D n k)) n (by have : zRad D n (zCho D n k) = maxTo (fun i => zNear D i (zCho D n k)) n := rfl; omega)
    have hR' : zNear D x (zCho D n k) = zRad D n (zCho D n k) := hR
    have hxC : x ∉ zCho D n k := fun hm => by
      have := zNear_self (hnn x) (h0 x) hm
      omega
    have hCn := (zCho_ok (D := D) (n := n) k hkn).2.2
    have hCl := (zCho_ok (D := D) (n := n) k hkn).1
    let p : Nat → Nat := fun s => if s < k then (zCho D n k).getD s 0 else x
    have hpn : ∀ s, p s < n := fun s => by
      show (if s < k then (zCho D n k).getD s 0 else x) < n
      split
      · rename_i h
        exact hCn _ (zCho_mem h (Nat.le_refl _) hkn)
      · exact hx
    have hfar : ∀ s t, s < t → t ≤ k → zRad D n (zCho D n k) ≤ D (p t) (p s) := fun s t hst htk => by
      have hps : p s = (zCho D n k).getD s 0 := if_pos (by omega)
      rcases Nat.lt_or_ge t k with h | h
      · have hpt : p t = (zArg D (zCho D n t) n).getD 0 := by
          show (if t < k then (zCho D n k).getD t 0 else x) = _
          rw [if_pos h]
          exact zCho_at (by omega) h hkn
        have hsub : ∀ c ∈ zCho D n t, c ∈ zCho D n k := fun c hc => by
          obtain ⟨r, hr⟩ := zCho_pre (D := D) (n := n) (t := t) (k := k) (by omega)
          rw [hr]
          exact List.mem_append_left _ hc
        have hxt : x ∉ zCho D n t := fun hm => hxC (hsub x hm)
        obtain ⟨b, hb⟩ := zArg_some (D := D) hx hxt
        have hsp := zArg_spec D (zCho D n t) n
        rw [hb] at hsp hpt
        simp at hpt
        rw [hpt, hps, ← hR']
        have q1 := zNear_more (hnn x) (zCho_ne (D := D) (n := n) (t := t) (by omega) (by omega)) hsub
        have q2 := hsp.2.2.1 x hx hxt
        have q3 := zNear_le (hnn b) (zCho_mem (D := D) (n := n) (k := k) hst (by omega) hkn)
        omega
      · obtain rfl : t = k := by omega
        have hpt : p t = x := if_neg (by omega)
        rw [hpt, hps, ← hR']
        exact zNear_le (hnn x) (zCho_mem hst (Nat.le_refl _) hkn)
    have hb : ∀ s, ∃ b, b ∈ B ∧ zNear D (p s) B = D (p s) b := fun s => by
      obtain ⟨b, h1, h2⟩ := zNear_at (hnn (p s)) hB0
      exact ⟨b, h1, h2⟩
    obtain ⟨s, t, hst, htk, hst2⟩ := zPigeon (fun s => Classical.choose (hb s)) (k + 1) B (by omega) (fun s _ => (Classical.choose_spec (hb s)).1)
    have hs := (Classical.choose_spec (hb s)).2
    have ht := (Classical.choose_spec (hb t)).2
    have hbB := (Classical.choose_spec (hb t)).1
    have hst3 : Classical.choose (hb s) = Classical.choose (hb t) := hst2
    rw [hst3] at hs
    clear hst2 hst3
    generalize Classical.choose (hb t) = b at *
    have r1 := zRad_ge (D := D) (hpn s) B
    have r2 := zRad_ge (D := D) (hpn t) B
    have q := hfar s t hst (by omega)
    have q2 := htri (p t) (p s) b (hpn t) (hpn s) (hBn b hbB)
    have q3 : a * (D (p t) b + D (p s) b) ≤ a * (2 * zRad D n B) := Int.mul_le_mul_of_nonneg_left (by omega) ha
    have e : a * (2 * zRad D n B) = 2 * a * zRad D n B := by rw [Int.mul_left_comm, ← Int.mul_assoc]
    omega
  · exact hle

end Go.Proofs.Ytfbindjacmaeoaa
