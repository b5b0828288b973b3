/-
  Plain mathematics for the laws of chapter 12: who is in which group, by numbers; the gap; the groups of the threads.
-/
import Derived.Test.YtfbindjacmaeoaaEIds
namespace Go.Proofs.Ytfbindjacmaeoaa

/-- These numbers into group g; nothing where one is none of theirs or stands already. -/
def inIds (ms : List Mk) (g : Nat) : List Int → (Nat → Nat) → Option (Nat → Nat)
  | [], h => some h
  | id :: ids, h => if zFind ms id < 0 ∨ h (zIdx ms id) ≠ 0 then none else inIds ms g ids (fun i => if i = zIdx ms id then g + 1 else h i)
def inGrp (ms : List Mk) : List (List Int) → Nat → (Nat → Nat) → Option (Nat → Nat)
  | [], _, h => some h
  | ids :: gs, g, h => if ids = [] then none else match inIds ms g ids h with
    | none => none
    | some h' => inGrp ms gs (g + 1) h'
def lenS (gs : List (List Int)) : Nat := (gs.map List.length).sum
def gapB (ms : List Mk) (kd : Int) (gs : List (List Int)) : Bool := thrB ms kd && decide (2 ≤ gs.length)
def gapI (ms : List Mk) (kd : Int) (gs : List (List Int)) : Int := if gapB ms kd gs = true then match inGrp ms gs 0 (fun _ => 0) with
    | none => -1
    | some h => if lenS gs = ms.length then gapAll h (zD ms kd) ms.length else -1
  else -1
theorem inIds_snoc (ms : List Mk) (g : Nat) (ids : List Int) (id : Int) : ∀ h, inIds ms g (ids ++ [id]) h = match inIds ms g ids h with
    | none => none
    | some h' => if zFind ms id < 0 ∨ h' (zIdx ms id) ≠ 0 then none else some (fun i => if i = zIdx ms id then g + 1 else h' i) := by
  induction ids with
  | nil => intro h; simp [inIds]
  | cons x ids ih =>
    intro h
    simp only [List.cons_append, inIds]
    split
    · rfl
    · exact ih _
theorem inGrp_snoc (ms : List Mk) (gs : List (List Int)) (ids : List Int) : ∀ g h, inGrp ms (gs ++ [ids]) g h = match inGrp ms gs g h with
    | none => none
    | some h' => if ids = [] then none else inIds ms (g + gs.length) ids h' := by
  induction gs with
  | nil =>
    intro g h
    simp only [List.nil_append, inGrp, List.length_nil, Nat.add_zero]
    split
    · rfl
    · cases inIds ms g ids h <;> rfl
  | cons x gs ih =>
    intro g h
    simp only [List.cons_append, inGrp]
    split
    · rfl
    · cases inIds ms g x h with
      | none => rfl
      | some h' => simp only [ih]; rw [List.length_cons, show g + 1 + gs.length = g + (gs.length + 1) by omega]
/-- What stands stays; each one of them stands in g. -/
theorem inIds_keep {ms : List Mk} {g : Nat} : ∀ {ids : List Int} {h h' : Nat → Nat}, inIds ms g ids h = some h' → (∀ i, h i ≠ 0 → h' i = h i) ∧ ∀ id ∈ ids, zIdx ms id < ms.length ∧ h' (zIdx ms id) = g + 1
  | [], h, h', e => by
    simp only [inIds, Option.some.injEq] at e
    subst e
    exact ⟨fun _ _ => rfl, fun id hid => by simp at hid⟩
  | x :: ids, h, h', e => by
    simp only [inIds] at e
    split at e
    · cases e
    · rename_i hc
      have hf : 0 ≤ zFind ms x := by omega
      have h0 : h (zIdx ms x) = 0 := by omega
      obtain ⟨k1, k2⟩ := inIds_keep e
      refine ⟨fun i hi => ?_, fun id hid => ?_⟩
      · have hne : i ≠ zIdx ms x := fun e' => hi (by rw [e']; exact h0)
        have := k1 i (by simp [hne]; exact hi)
        simpa [hne] using this
      · rcases List.mem_cons.1 hid with e' | e'
        · subst e'
          exact ⟨(zIdx_lt hf).1, by have := k1 (zIdx ms id) (by simp); simpa using this⟩
        · exact k2 id e'
/-- Each group has some. -/
theorem inGrp_has {ms : List Mk} : ∀ {gs : List (List Int)} {g : Nat} {h h' : Nat → Nat}, inGrp ms gs g h = some h' → (∀ i, h i ≠ 0 → h' i = h i) ∧ ∀ j, j < gs.length → ∃ i, i < ms.length ∧ h' i = g + j + 1
  | [], g, h, h', e => by
    simp only [inGrp, Option.some.injEq] at e
    subst e
    exact ⟨fun _ _ => rfl, fun j hj => by simp at hj⟩
  | ids :: gs, g, h, h', e => by
    simp only [inGrp] at e
    split at e
    · cases e
    · rename_i hne
      rcases hi : inIds ms g ids h with _ | h1
      · rw [hi] at e; cases e
      · rw [hi] at e
        obtain ⟨a1, a2⟩ := inIds_keep hi
        obtain ⟨b1, b2⟩ := inGrp_has e
        refine ⟨fun i hi' => ?_, fun j hj => ?_⟩
        · have := a1 i hi'
          rw [b1 i (by rw [this]; exact hi'), this]
        · cases j with
          | zero =>
            cases ids with
            | nil => exact absurd rfl hne
            | cons x ids =>
              obtain ⟨c1, c2⟩ := a2 x (List.mem_cons_self ..)
              exact ⟨_, c1, by rw [b1 _ (by rw [c2]; omega), c2]⟩
          | succ j =>
            obtain ⟨i, hi1, hi2⟩ := b2 j (by simpa using hj)
            exact ⟨i, hi1, by omega⟩
/-- A part's own numbers go into its group. -/
theorem inIds_part {ms : List Mk} (hm : marksB ms = true) (g : Nat) : ∀ (J : List Nat), J.Nodup → (∀ j ∈ J, j < ms.length) → ∀ h : Nat → Nat, (∀ j ∈ J, h j = 0) → inIds ms g (J.map (mid ms)) h = some (fun i => if i ∈ J then g + 1 else h i)
  | [], _, _, h, _ => by simp [inIds]
  | j :: J, hd, hJ, h, h0 => by
    have hd' := List.nodup_cons.1 hd
    have hj := hJ j (List.mem_cons_self ..)
    obtain ⟨f1, f2⟩ := zFind_mid hm hj
    simp only [List.map_cons, inIds]
    rw [f1, f2, if_neg (by have := h0 j (List.mem_cons_self ..); omega)]
    rw [inIds_part hm g J hd'.2 (fun x hx => hJ x (List.mem_cons_of_mem _ hx)) _ (fun x hx => by
      have : x ≠ j := fun e => hd'.1 (e ▸ hx)
      simp [this, h0 x (List.mem_cons_of_mem _ hx)])]
    congr 1
    funext i
    by_cases h1 : i ∈ J
    · simp [h1]
    · by_cases h2 : i = j
      · simp [h2]
      · simp [h1, h2]
/-- The parts' groups, put in one by one: who has one label is in one group. -/
theorem inGrp_parts {ms : List Mk} (hm : marksB ms = true) (p : Nat → Nat) : ∀ (R : List Nat), R.Nodup → (∀ r ∈ R, r < ms.length ∧ p r = r) → ∀ (g : Nat) (h : Nat → Nat), (∀ i, i < ms.length → p i ∈ R → h i = 0) →
    ∃ h', inGrp ms (R.map (grpAt ms p)) g h = some h' ∧ (∀ i, ¬ (i < ms.length ∧ p i ∈ R) → h' i = h i) ∧ ∀ i, i < ms.length → p i ∈ R → h' i = g + R.idxOf (p i) + 1
  | [], _, _, g, h, _ => ⟨h, rfl, fun _ _ => rfl, fun i _ hi => by simp at hi⟩
  | r :: R, hd, hR, g, h, h0 => by
    have hd' := List.nodup_cons.1 hd
    have hr := hR r (List.mem_cons_self ..)
    have hJ : ∀ i, i ∈ (List.range ms.length).filter (fun j => decide (p j = r)) ↔ i < ms.length ∧ p i = r := fun i => by rw [List.mem_filter, List.mem_range]; simp
    have h1 := inIds_part hm g ((List.range ms.length).filter (fun j => decide (p j = r))) (List.Pairwise.filter _ List.nodup_range) (fun j hj => ((hJ j).1 hj).1) h (fun j hj => h0 j ((hJ j).1 hj).1 (by rw [((hJ j).1 hj).2]; exact List.mem_cons_self ..))
    have hne : grpAt ms p r ≠ [] := fun e => by
      have : r ∈ (List.range ms.length).filter (fun j => decide (p j = r)) := (hJ r).2 hr
      have hmem : mid ms r ∈ grpAt ms p r := List.mem_map_of_mem this
      rw [e] at hmem
      simp at hmem
    obtain ⟨h', e1, e2, e3⟩ := inGrp_parts hm p R hd'.2 (fun x hx => hR x (List.mem_cons_of_mem _ hx)) (g + 1) (fun i => if i ∈ (List.range ms.length).filter (fun j => decide (p j = r)) then g + 1 else h i) (fun i hi hp => by
      have hnr : p i ≠ r := fun e => hd'.1 (e ▸ hp)
      have : ¬ i ∈ (List.range ms.length).filter (fun j => decide (p j = r)) := fun hh => hnr ((hJ i).1 hh).2
      rw [if_neg this]
      exact h0 i hi (List.mem_cons_of_mem _ hp))
    refine ⟨h', ?_, fun i hi => ?_, fun i hi hp => ?_⟩
    · simp only [List.map_cons, inGrp]
      rw [if_neg hne]
      have e4 : inIds ms g (grpAt ms p r) h = some (fun i => if i ∈ (List.range ms.length).filter (fun j => decide (p j = r)) then g + 1 else h i) := h1
      rw [e4]
      exact e1
    · rw [e2 i (fun hh => hi ⟨hh.1, List.mem_cons_of_mem _ hh.2⟩)]
      have : ¬ i ∈ (List.range ms.length).filter (fun j => decide (p j = r)) := fun hh => hi ⟨((hJ i).1 hh).1, by rw [((hJ i).1 hh).2]; exact List.mem_cons_self ..⟩
      rw [if_neg this]
    · by_cases hpr : p i = r
      · have hin : i ∈ (List.range ms.length).filter (fun j => decide (p j = r)) := (hJ i).2 ⟨hi, hpr⟩
        rw [e2 i (fun hh => hd'.1 (hpr ▸ hh.2)), if_pos hin, hpr]
        simp
      · have hp' : p i ∈ R := by
          rcases List.mem_cons.1 hp with e | e
          · exact absurd e hpr
          · exact e
        have hb : (r == p i) = false := by simp; exact fun e => hpr e.symm
        rw [e3 i hi hp', List.idxOf_cons, hb]
        simp only [cond_false]
        omega
theorem filter_one {p : Nat → Nat} {r : Nat} {R : List Nat} (hr : r ∉ R) (L : List Nat) : (L.filter (fun j => decide (p j = r))).length + (L.filter (fun j => decide (p j ∈ R))).length = (L.filter (fun j => decide (p j ∈ r :: R))).length := by
  induction L with
  | nil => rfl
  | cons x L ih =>
    by_cases h1 : p x = r
    · have h2 : p x ∉ R := by rw [h1]; exact hr
      rw [List.filter_cons_of_pos (by simpa using h1), List.filter_cons_of_neg (by simpa using h2), List.filter_cons_of_pos (by simp [h1])]
      simp only [List.length_cons]
      omega
    · by_cases h2 : p x ∈ R
      · rw [List.filter_cons_of_neg (by simpa using h1), List.filter_cons_of_pos (by simpa using h2), List.filter_cons_of_pos (by simp [h2])]
        simp only [List.length_cons]
        omega
      · rw [List.filter_cons_of_neg (by simpa using h1), List.filter_cons_of_neg (by simpa using h2), List.filter_cons_of_neg (by simp [h1, h2])]
        exact ih
theorem filter_count {p : Nat → Nat} (L : List Nat) (R : List Nat) (hd : R.Nodup) : (R.map (fun r => (L.filter (fun j => decide (p j = r))).length)).sum = (L.filter (fun j => decide (p j ∈ R))).length := by
  induction R with
  | nil => rw [List.filter_eq_nil_iff.2 (fun _ _ => by simp)]; rfl
  | cons r R ih =>
    have hd' := List.nodup_cons.1 hd
    rw [List.map_cons, List.sum_cons, ih hd'.2]
    exact filter_one hd'.1 L
/-- The groups of labels: all are in them, each once; the gap is that of the labels. -/
theorem grp_gap {ms : List Mk} {kd : Int} (hB : thrB ms kd = true) (E : List Eg) (h2 : 2 ≤ (grpOf ms (lab E)).length) : gapI ms kd (grpOf ms (lab E)) = gapAll (lab E) (zD ms kd) ms.length ∧ lenS (grpOf ms (lab E)) = ms.length := by
  obtain ⟨hm, hk⟩ := (thrB_iff ms kd).1 hB
  have hok := lab_ok E
  have hrep : ∀ i, i < ms.length → lab E i ∈ (List.range ms.length).filter (fun i => decide (lab E i = i)) := fun i hi => by
    have := hok.le i
    exact List.mem_filter.2 ⟨List.mem_range.2 (by omega), by simpa using hok.idem i⟩
  have hlen : lenS (grpOf ms (lab E)) = ms.length := by
    unfold lenS grpOf
    rw [List.map_map]
    have e1 : (List.length ∘ grpAt ms (lab E)) = fun r => ((List.range ms.length).filter (fun j => decide (lab E j = r))).length := by
      funext r
      simp [Function.comp, grpAt]
    rw [e1, filter_count _ _ (List.Pairwise.filter _ List.nodup_range)]
    rw [List.filter_eq_self.2 (fun j hj => by simpa using hrep j (List.mem_range.1 hj)), List.length_range]
  obtain ⟨h, e1, -, e3⟩ := inGrp_parts hm (lab E) ((List.range ms.length).filter (fun i => decide (lab E i = i))) (List.Pairwise.filter _ List.nodup_range) (fun r hr => by
    have := List.mem_filter.1 hr
    exact ⟨List.mem_range.1 this.1, by simpa using this.2⟩) 0 (fun _ => 0) (fun _ _ _ => rfl)
  refine ⟨?_, hlen⟩
  rw [gapI, if_pos (by simp [gapB, hB, h2])]
  have e4 : inGrp ms (grpOf ms (lab E)) 0 (fun _ => 0) = some h := e1
  rw [e4]
  simp only
  rw [if_pos hlen]
  refine gapAll_same (fun i k hi hk' => ?_)
  rw [e3 i hi (hrep i hi), e3 k hk' (hrep k hk')]
  constructor
  · intro e
    have e5 : List.idxOf (lab E i) ((List.range ms.length).filter (fun i => decide (lab E i = i))) = List.idxOf (lab E k) ((List.range ms.length).filter (fun i => decide (lab E i = i))) := by omega
    have q1 := List.getElem_idxOf (List.idxOf_lt_length_of_mem (hrep i hi))
    have q2 := List.getElem_idxOf (List.idxOf_lt_length_of_mem (hrep k hk'))
    rw [← q1, ← q2]
    simp only [e5]
  · intro e; rw [e]
theorem grpOf_len (ms : List Mk) (p : Nat → Nat) : (grpOf ms p).length = comps ms.length p := by simp [grpOf, comps]
theorem grpB_iff (ms : List Mk) (kd k : Int) : grpB ms kd k = true ↔ thrB ms kd = true ∧ 1 ≤ k ∧ k ≤ ms.length := by simp [grpB, and_assoc]
theorem grpL_len {ms : List Mk} {kd k : Int} (h : grpB ms kd k = true) : ((grpL ms kd k).length : Int) = k := by
  obtain ⟨h1, h2, h3⟩ := (grpB_iff ms kd k).1 h
  rw [grpL, if_pos h, grpOf_len, groups_are (by omega) (by omega)]
  omega
/-- No other groups, as many, have a greater gap. -/
theorem gaps {ms : List Mk} {kd : Int} {k : Nat} (h : grpB ms kd k = true) (h2 : 2 ≤ k) : 0 ≤ gapI ms kd (grpL ms kd k) ∧ ∀ gs : List (List Int), gs.length = k → gapI ms kd gs ≤ gapI ms kd (grpL ms kd k) := by
  obtain ⟨hB, h1, h3⟩ := (grpB_iff ms kd k).1 h
  have hl := grpL_len h
  have eL : grpL ms kd k = grpOf ms (lab ((thrE (zD ms kd) ms.length).take (ms.length - k))) := by rw [grpL, if_pos h, Int.toNat_natCast]
  rw [eL] at hl
  have hg := (grp_gap hB ((thrE (zD ms kd) ms.length).take (ms.length - k)) (by omega)).1
  obtain ⟨b1, b2⟩ := gaps_best (D := zD ms kd) (zD_nn ms kd) (zD_comm ms kd) (n := ms.length) (k := k) h2 (by omega)
  rw [eL, hg]
  refine ⟨b1, fun gs hgs => ?_⟩
  unfold gapI
  split
  · rcases hi : inGrp ms gs 0 (fun _ => 0) with _ | h'
    · simp only; omega
    · simp only
      split
      · refine b2 h' (fun g hg' => ?_)
        obtain ⟨i, hi1, hi2⟩ := (inGrp_has hi).2 g (by omega)
        exact ⟨i, hi1, by omega⟩
      · omega
  · omega

end Go.Proofs.Ytfbindjacmaeoaa
