/-
  Plain mathematics for the program's own Gap: which numbers are left; groups tied by their first; the least between two of two groups comes first.
-/
import Derived.Test.YtfbindjacmaeoaaECellsZz
import Derived.Test.YtfbindjacmaeoaaMathZz
namespace Go.Proofs.Ytfbindjacmaeoaa

theorem inIds_app (ms : List Mk) (g : Nat) (a b : List Int) : ∀ h, inIds ms g (a ++ b) h = match inIds ms g a h with
    | none => none
    | some h' => inIds ms g b h' := by
  induction a with
  | nil => intro h; rfl
  | cons x a ih =>
    intro h
    simp only [List.cons_append, inIds]
    split
    · rfl
    · exact ih _
theorem inIds_none {ms : List Mk} {g : Nat} {ids : List Int} {h : Nat → Nat} (m : Nat) (e : inIds ms g (ids.take m) h = none) : inIds ms g ids h = none := by
  have := inIds_app ms g (ids.take m) (ids.drop m) h
  rw [List.take_append_drop, e] at this
  exact this
theorem inGrp_app (ms : List Mk) (a b : List (List Int)) : ∀ g h, inGrp ms (a ++ b) g h = match inGrp ms a g h with
    | none => none
    | some h' => inGrp ms b (g + a.length) h' := by
  induction a with
  | nil => intro g h; simp [inGrp]
  | cons x a ih =>
    intro g h
    simp only [List.cons_append, inGrp]
    split
    · rfl
    · cases inIds ms g x h with
      | none => rfl
      | some h' => simp only [ih]; rw [List.length_cons, show g + 1 + a.length = g + (a.length + 1) by omega]
theorem inGrp_none {ms : List Mk} {gs : List (List Int)} {h : Nat → Nat} (j : Nat) (e : inGrp ms (gs.take j) 0 h = none) : inGrp ms gs 0 h = none := by
  have := inGrp_app ms (gs.take j) (gs.drop j) 0 h
  rw [List.take_append_drop, e] at this
  exact this
/-- What is left: the numbers of those that stand in no group yet, each once. -/
structure LeftOk (ms : List Mk) (h : Nat → Nat) (left : List Int) : Prop where
  nodup : left.Nodup
  mem : ∀ x, x ∈ left ↔ ∃ i, i < ms.length ∧ mid ms i = x ∧ h i = 0
def numsM (ms : List Mk) : List Int := ms.map (·.1)
theorem numsM_len (ms : List Mk) : (numsM ms).length = ms.length := by simp [numsM]
theorem numsM_get {ms : List Mk} {i : Nat} (h : i < (numsM ms).length) : (numsM ms)[i] = mid ms i := by
  have h' : i < ms.length := by rw [numsM_len] at h; exact h
  simp [numsM, mid, List.getD, h']
theorem LeftOk.start {ms : List Mk} (hm : marksB ms = true) : LeftOk ms (fun _ => 0) (numsM ms) := by
  refine ⟨?_, fun x => ?_⟩
  · rw [List.Nodup, List.pairwise_iff_getElem]
    intro i j hi hj hij
    rw [numsM_get, numsM_get]
    have := zmid_rises hm hij (by rw [numsM_len] at hj; exact hj)
    omega
  · constructor
    · intro hx
      obtain ⟨i, hi, rfl⟩ := List.getElem_of_mem hx
      exact ⟨i, by rw [numsM_len] at hi; exact hi, by rw [numsM_get], rfl⟩
    · rintro ⟨i, hi, rfl, -⟩
      have hi' : i < (numsM ms).length := by rw [numsM_len]; exact hi
      rw [← numsM_get hi']
      exact List.getElem_mem hi'
theorem mem_erase {l : List Int} (hd : l.Nodup) {k : Nat} (hk : k < l.length) (x : Int) : x ∈ l.eraseIdx k ↔ x ∈ l ∧ x ≠ l[k] := by
  have e1 : l = l.take k ++ l[k] :: l.drop (k + 1) := by rw [← List.drop_eq_getElem_cons hk, List.take_append_drop]
  have hd2 : (l.take k ++ l[k] :: l.drop (k + 1)).Nodup := by rw [← e1]; exact hd
  obtain ⟨-, d2, d3⟩ := List.nodup_append.1 hd2
  have d4 := List.nodup_cons.1 d2
  have hm : x ∈ l ↔ x ∈ l.take k ∨ x = l[k] ∨ x ∈ l.drop (k + 1) := by
    conv => lhs; rw [e1]
    rw [List.mem_append, List.mem_cons]
  rw [List.eraseIdx_eq_take_drop_succ, List.mem_append, hm]
  constructor
  · rintro (h | h)
    · exact ⟨Or.inl h, fun e => d3 x h l[k] (List.mem_cons_self ..) e⟩
    · exact ⟨Or.inr (Or.inr h), fun e => d4.1 (e ▸ h)⟩
  · rintro ⟨h | h | h, hne⟩
    · exact Or.inl h
    · exact absurd h hne
    · exact Or.inr h
theorem nodup_erase {l : List Int} (hd : l.Nodup) (k : Nat) : (l.eraseIdx k).Nodup := hd.sublist (List.eraseIdx_sublist l k)
theorem LeftOk.found {ms : List Mk} {h : Nat → Nat} {left : List Int} (hl : LeftOk ms h left) (hm : marksB ms = true) {id : Int} (hi : id ∈ left) : ¬ (zFind ms id < 0 ∨ h (zIdx ms id) ≠ 0) := by
  obtain ⟨i, h1, h2, h3⟩ := (hl.mem id).1 hi
  have := zFind_mid hm h1
  rw [h2] at this
  rw [this.1, this.2]
  omega
theorem LeftOk.lost {ms : List Mk} {h : Nat → Nat} {left : List Int} (hl : LeftOk ms h left) {id : Int} (hi : id ∉ left) : zFind ms id < 0 ∨ h (zIdx ms id) ≠ 0 := by
  rcases Int.lt_or_le (zFind ms id) 0 with h1 | h1
  · exact Or.inl h1
  · refine Or.inr (fun h2 => hi ?_)
    have := zIdx_lt h1
    exact (hl.mem id).2 ⟨zIdx ms id, this.1, this.2.2, h2⟩
theorem LeftOk.next {ms : List Mk} {h : Nat → Nat} {left : List Int} (hl : LeftOk ms h left) (hm : marksB ms = true) {k : Nat} (hk : k < left.length) (g : Nat) : LeftOk ms (fun i => if i = zIdx ms left[k] then g + 1 else h i) (left.eraseIdx k) := by
  refine ⟨nodup_erase hl.nodup k, fun x => ?_⟩
  rw [mem_erase hl.nodup hk, hl.mem x]
  obtain ⟨i0, a1, a2, a3⟩ := (hl.mem left[k]).1 (List.getElem_mem hk)
  have hz := (zFind_mid hm a1).2
  rw [a2] at hz
  rw [hz]
  constructor
  · rintro ⟨⟨i, b1, b2, b3⟩, hne⟩
    have hii : i ≠ i0 := fun e => hne (by rw [← b2, e, a2])
    exact ⟨i, b1, b2, by simp [hii, b3]⟩
  · rintro ⟨i, b1, b2, b3⟩
    have hii : i ≠ i0 := fun e => by simp [e] at b3
    refine ⟨⟨i, b1, b2, by simpa [hii] using b3⟩, fun e => hii (zmid_inj hm b1 a1 (by rw [b2, e, a2]))⟩
/-- Are they groups in which each stands once? -/
def grOkB (ms : List Mk) (gs : List (List Int)) : Bool := (inGrp ms gs 0 (fun _ => 0)).isSome && decide (lenS gs = ms.length)
theorem lenS_snoc (gs : List (List Int)) (ids : List Int) : lenS (gs ++ [ids]) = lenS gs + ids.length := by simp [lenS]
theorem grOk_no {ms : List Mk} {gs : List (List Int)} (h : inGrp ms gs 0 (fun _ => 0) = none) : grOkB ms gs = false := by simp [grOkB, h]
theorem cn_get {gs : List (List Int)} {j : Nat} (h : j < gs.length) : cn gs j = gs[j] := by simp [cn, List.getD, h]
theorem take_cn {gs : List (List Int)} {j : Nat} (h : j < gs.length) : gs.take (j + 1) = gs.take j ++ [cn gs j] := by rw [cn_get h]; exact List.take_succ_eq_append_getElem h
theorem grp_step {ms : List Mk} {gs : List (List Int)} {j : Nat} (hj : j < gs.length) {h : Nat → Nat} (e : inGrp ms (gs.take j) 0 (fun _ => 0) = some h) : inGrp ms (gs.take (j + 1)) 0 (fun _ => 0) = if cn gs j = [] then none else inIds ms j (cn gs j) h := by
  rw [take_cn hj, inGrp_snoc, e]
  simp only [List.length_take]
  rw [show 0 + min j gs.length = j by omega]

/-- Whoever stands in a group is one of its own. -/
theorem inIds_back {ms : List Mk} {g : Nat} : ∀ {ids : List Int} {h h' : Nat → Nat}, inIds ms g ids h = some h' → ∀ i, h' i = h i ∨ (h' i = g + 1 ∧ ∃ id ∈ ids, zIdx ms id = i)
  | [], h, h', e => by
    simp only [inIds, Option.some.injEq] at e
    subst e
    exact fun i => Or.inl rfl
  | x :: ids, h, h', e => by
    simp only [inIds] at e
    split at e
    · cases e
    · intro i
      rcases inIds_back e i with h1 | ⟨h1, id, h2, h3⟩
      · by_cases hx : i = zIdx ms x
        · exact Or.inr ⟨by rw [h1]; simp [hx], x, List.mem_cons_self .., hx.symm⟩
        · exact Or.inl (by rw [h1]; simp [hx])
      · exact Or.inr ⟨h1, id, List.mem_cons_of_mem _ h2, h3⟩
theorem inIds_found {ms : List Mk} {g : Nat} : ∀ {ids : List Int} {h h' : Nat → Nat}, inIds ms g ids h = some h' → ∀ id ∈ ids, 0 ≤ zFind ms id
  | [], _, _, _ => fun id hid => by simp at hid
  | x :: ids, h, h', e => by
    simp only [inIds] at e
    split at e
    · cases e
    · rename_i hc
      intro id hid
      rcases List.mem_cons.1 hid with e' | e'
      · rw [e']; omega
      · exact inIds_found e id e'
/-- The pairs that tie a group: its first with each. -/
def tieE (ms : List Mk) (ids : List Int) : List Eg := ids.map (fun id => (zIdx ms (nth ids 0), zIdx ms id))
def tieAllE (ms : List Mk) (gs : List (List Int)) : List Eg := (gs.map (tieE ms)).flatten
theorem tieAllE_snoc (ms : List Mk) (gs : List (List Int)) (ids : List Int) : tieAllE ms (gs ++ [ids]) = tieAllE ms gs ++ tieE ms ids := by simp [tieAllE]
theorem nth0_mem {ids : List Int} (h : ids ≠ []) : nth ids 0 ∈ ids := by
  cases ids with
  | nil => exact absurd rfl h
  | cons x ids => simp [nth]
theorem grp_in {ms : List Mk} : ∀ j, ∀ {gs : List (List Int)}, j ≤ gs.length → ∀ {h : Nat → Nat}, inGrp ms (gs.take j) 0 (fun _ => 0) = some h →
    (∀ k, k < j → cn gs k ≠ [] ∧ (∀ id ∈ cn gs k, 0 ≤ zFind ms id ∧ zIdx ms id < ms.length ∧ h (zIdx ms id) = k + 1)) ∧ ∀ i, h i ≠ 0 → ∃ k, k < j ∧ h i = k + 1 ∧ ∃ id ∈ cn gs k, zIdx ms id = i
  | 0, gs, _, h, e => by
    simp only [List.take_zero, inGrp, Option.some.injEq] at e
    subst e
    exact ⟨fun k hk => by omega, fun i hi => by simp at hi⟩
  | j + 1, gs, hj, h, e => by
    rcases e0 : inGrp ms (gs.take j) 0 (fun _ => 0) with _ | h0
    · have := inGrp_snoc ms (gs.take j) (cn gs j) 0 (fun _ => 0)
      rw [← take_cn (by omega), e, e0] at this
      cases this
    · rw [grp_step (by omega) e0] at e
      split at e
      · cases e
      · rename_i hne
        obtain ⟨a1, a2⟩ := grp_in j (by omega) e0
        obtain ⟨k1, k2⟩ := inIds_keep e
        have kb := inIds_back e
        have kf := inIds_found e
        refine ⟨fun k hk => ?_, fun i hi => ?_⟩
        · rcases Nat.lt_or_ge k j with hlt | hge
          · refine ⟨(a1 k hlt).1, fun id hid => ?_⟩
            obtain ⟨b1, b2, b3⟩ := (a1 k hlt).2 id hid
            exact ⟨b1, b2, by rw [k1 _ (by rw [b3]; omega)]; exact b3⟩
          · obtain rfl : k = j := by omega
            exact ⟨hne, fun id hid => ⟨kf id hid, k2 id hid⟩⟩
        · rcases kb i with h1 | ⟨h1, id, h2, h3⟩
          · rw [h1] at hi ⊢
            obtain ⟨k, b1, b2, b3⟩ := a2 i hi
            exact ⟨k, by omega, b2, b3⟩
          · exact ⟨j, by omega, h1, id, h2, h3⟩
theorem mem_cn {gs : List (List Int)} {ids : List Int} (h : ids ∈ gs) : ∃ k, k < gs.length ∧ cn gs k = ids := by
  obtain ⟨k, hk, rfl⟩ := List.getElem_of_mem h
  exact ⟨k, hk, cn_get hk⟩
/-- Tied by groups: just who is in one group. -/
theorem grp_tied {ms : List Mk} {gs : List (List Int)} {h : Nat → Nat} (e : inGrp ms gs 0 (fun _ => 0) = some h) (hall : ∀ i, i < ms.length → h i ≠ 0) : ∀ i k, i < ms.length → k < ms.length → (h i = h k ↔ lab (tieAllE ms gs) i = lab (tieAllE ms gs) k) := by
  have e' : inGrp ms (gs.take gs.length) 0 (fun _ => 0) = some h := by rw [List.take_length]; exact e
  obtain ⟨a1, a2⟩ := grp_in gs.length (Nat.le_refl _) e'
  have hins : ∀ x ∈ tieAllE ms gs, h x.1 = h x.2 := fun x hx => by
    obtain ⟨L, hL, hxL⟩ := List.mem_flatten.1 hx
    obtain ⟨ids, hids, rfl⟩ := List.mem_map.1 hL
    obtain ⟨id, hid, rfl⟩ := List.mem_map.1 hxL
    obtain ⟨k, hk, rfl⟩ := mem_cn hids
    obtain ⟨b0, b1⟩ := a1 k hk
    show h (zIdx ms (nth (cn gs k) 0)) = h (zIdx ms id)
    rw [(b1 id hid).2.2, (b1 _ (nth0_mem b0)).2.2]
  have hok := lab_ok (tieAllE ms gs)
  have hedge : ∀ i, i < ms.length → ∃ k, k < gs.length ∧ h i = k + 1 ∧ lab (tieAllE ms gs) i = lab (tieAllE ms gs) (zIdx ms (nth (cn gs k) 0)) := fun i hi => by
    obtain ⟨k, hk, h1, id, hid, h2⟩ := a2 i (hall i hi)
    refine ⟨k, hk, h1, ?_⟩
    have hmem : (zIdx ms (nth (cn gs k) 0), zIdx ms id) ∈ tieAllE ms gs := by
      refine List.mem_flatten.2 ⟨tieE ms (cn gs k), List.mem_map_of_mem (by rw [cn_get hk]; exact List.getElem_mem hk), ?_⟩
      exact List.mem_map_of_mem (f := fun id => (zIdx ms (nth (cn gs k) 0), zIdx ms id)) hid
    have := hok.edge _ hmem
    rw [← h2]
    exact this.symm
  intro i k hi hk
  constructor
  · intro hh
    obtain ⟨x, hx, x1, x2⟩ := hedge i hi
    obtain ⟨y, hy, y1, y2⟩ := hedge k hk
    have : x = y := by omega
    subst this
    rw [x2, y2]
  · intro hh
    have f1 := hok.fine h hins i
    have f2 := hok.fine h hins k
    rw [← f1, ← f2, hh]
/-- In order, the first pair of two parts has the least between two parts. -/
theorem gap_first {D : Nat → Nat → Int} (hnn : ∀ i k, 0 ≤ D i k) (hsym : ∀ i k, D i k = D k i) {n : Nat} {p : Nat → Nat} {m : Nat} (hm : m < (srtE D n).length) (hb : ∀ j, j < m → p (egn (srtE D n) j).1 = p (egn (srtE D n) j).2) (hu : p (egn (srtE D n) m).1 ≠ p (egn (srtE D n) m).2) : gapAll p D n = wt D (egn (srtE D n) m) := by
  have hok := gapAll_ok (h := p) hnn n
  have hmem := (mem_srtE D n _).1 (egn_mem hm)
  have h1 := hok.low (egn (srtE D n) m).2 (egn (srtE D n) m).1 hmem (fun e => hu e.symm)
  have h1' : gapAll p D n ≤ wt D (egn (srtE D n) m) := by rw [hsym] at h1; exact h1.2
  rcases hok.at_ with e | ⟨i, k, hp, hne, e⟩
  · omega
  · have hin : (k, i) ∈ srtE D n := (mem_srtE D n _).2 hp
    obtain ⟨j, hj, ej⟩ := List.getElem_of_mem hin
    have hjm : m ≤ j := by
      rcases Nat.lt_or_ge j m with h2 | h2
      · exfalso
        have := hb j h2
        rw [egn_get hj, ej] at this
        exact hne this.symm
      · exact h2
    have hle : wt D (egn (srtE D n) m) ≤ wt D (srtE D n)[j] := by
      rw [egn_get hm]
      rcases Nat.lt_or_eq_of_le hjm with h3 | h3
      · exact (List.pairwise_iff_getElem.1 (srtE_ord D n).asc) m j hm hj h3
      · subst h3; exact Int.le_refl _
    rw [ej] at hle
    have : wt D (k, i) = D i k := hsym k i
    omega
/-- Two groups: some pair is of two. -/
theorem gap_some {D : Nat → Nat → Int} {n : Nat} {p : Nat → Nat} (h : ∃ i k, i < n ∧ k < n ∧ p i ≠ p k) : ∃ m, m < (srtE D n).length ∧ (∀ j, j < m → p (egn (srtE D n) j).1 = p (egn (srtE D n) j).2) ∧ p (egn (srtE D n) m).1 ≠ p (egn (srtE D n) m).2 := by
  rcases first_not (fun e => decide (p e.1 = p e.2)) (srtE D n) with h1 | ⟨m, h1, h2, h3⟩
  · exfalso
    obtain ⟨i, k, hi, hk, hne⟩ := h
    rcases Nat.lt_trichotomy i k with h2 | h2 | h2
    · have := h1 (i, k) ((mem_srtE D n _).2 ⟨h2, hk⟩)
      simp at this
      exact hne this
    · exact hne (by rw [h2])
    · have := h1 (k, i) ((mem_srtE D n _).2 ⟨h2, hi⟩)
      simp at this
      exact hne this.symm
  · exact ⟨m, h1, fun j hj => by simpa using h2 j hj, by simpa using h3⟩

end Go.Proofs.Ytfbindjacmaeoaa
