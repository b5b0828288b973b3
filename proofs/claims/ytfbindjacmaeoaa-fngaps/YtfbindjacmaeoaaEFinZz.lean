/-
  Plain mathematics for the laws of chapter 12: threads that tie each mark to one ahead of it; threads rise; groups rise and have all.
-/
import Derived.Test.YtfbindjacmaeoaaECellsZz
import Derived.Test.YtfbindjacmaeoaaMathZz
namespace Go.Proofs.Ytfbindjacmaeoaa

/-- Each mark behind the first, to one ahead of it. -/
def starL (ms : List Mk) (kd : Int) (f : Nat → Nat) (m : Nat) : List Th := (List.range m).map (fun i => thOf ms kd (f (i + 1), i + 1))
theorem starL_len (ms : List Mk) (kd : Int) (f : Nat → Nat) (m : Nat) : (starL ms kd f m).length = m := by simp [starL]
theorem starL_succ (ms : List Mk) (kd : Int) (f : Nat → Nat) (m : Nat) : starL ms kd f (m + 1) = starL ms kd f m ++ [thOf ms kd (f (m + 1), m + 1)] := by simp [starL, List.range_succ]
theorem starL_congr (ms : List Mk) (kd : Int) {f g : Nat → Nat} {m : Nat} (h : ∀ i, i < m → f (i + 1) = g (i + 1)) : starL ms kd f m = starL ms kd g m := by
  unfold starL
  exact List.map_congr_left (fun i hi => by rw [h i (List.mem_range.1 hi)])
theorem star_tied {ms : List Mk} {kd : Int} (h : thrB ms kd = true) {f : Nat → Nat} {m : Nat} (hm : m + 1 = ms.length) (hf : ∀ i, 1 ≤ i → i < ms.length → f i < i) : tiedB ms (starL ms kd f m) kd = true := by
  obtain ⟨hmk, -⟩ := (thrB_iff ms kd).1 h
  have hE : (starL ms kd f m).map (eOf ms) = (List.range m).map (fun i => (f (i + 1), i + 1)) := by
    unfold starL
    rw [List.map_map]
    refine List.map_congr_left (fun i hi => ?_)
    have hi' := List.mem_range.1 hi
    have h1 := hf (i + 1) (by omega) (by omega)
    exact eOf_thOf hmk kd (e := (f (i + 1), i + 1)) (by show f (i + 1) < ms.length; omega) (by show i + 1 < ms.length; omega)
  have hok := lab_ok ((List.range m).map (fun i => (f (i + 1), i + 1)))
  have hsame : ∀ i, i < ms.length → lab ((List.range m).map (fun i => (f (i + 1), i + 1))) i = lab ((List.range m).map (fun i => (f (i + 1), i + 1))) 0 := fun i => by
    induction i using Nat.strongRecOn with
    | _ i ih =>
      intro hi
      rcases Nat.eq_zero_or_pos i with h0 | h0
      · rw [h0]
      · have h1 := hf i h0 hi
        have h2 := hok.edge (f i, i) (List.mem_map.2 ⟨i - 1, List.mem_range.2 (by omega), by rw [show i - 1 + 1 = i by omega]⟩)
        have h3 := ih (f i) h1 (by omega)
        exact h2.symm.trans h3
  simp only [tiedB, h, starL_len, hm, decide_true, Bool.true_and, Bool.and_true, Bool.and_eq_true, List.all_eq_true, decide_eq_true_eq]
  refine ⟨fun t ht => ?_, fun i hi => ?_⟩
  · obtain ⟨i, hi, rfl⟩ := List.mem_map.1 ht
    have hi' := List.mem_range.1 hi
    have h1 := hf (i + 1) (by omega) (by omega)
    rw [tOkB_iff]
    show 0 ≤ zFind ms (mid ms (f (i + 1))) ∧ 0 ≤ zFind ms (mid ms (i + 1)) ∧ zFind ms (mid ms (f (i + 1))) < zFind ms (mid ms (i + 1)) ∧ betV (mat ms (f (i + 1))) (mat ms (i + 1)) kd = betV (mat ms (zIdx ms (mid ms (f (i + 1))))) (mat ms (zIdx ms (mid ms (i + 1)))) kd
    have hb1 : f (i + 1) < ms.length := by omega
    have hb2 : i + 1 < ms.length := by omega
    rw [(zFind_mid hmk hb1).1, (zFind_mid hmk hb2).1, (zFind_mid hmk hb1).2, (zFind_mid hmk hb2).2]
    exact ⟨by omega, by omega, by omega, rfl⟩
  · rw [hE]
    exact hsame i (List.mem_range.1 hi)
/-- Threads rise. -/
theorem thr_rise {ms : List Mk} {kd : Int} (h : thrB ms kd = true) {i : Nat} (hi : i + 1 < (thrL ms kd).length) : (tnth (thrL ms kd) i).2.2 ≤ (tnth (thrL ms kd) (i + 1)).2.2 := by
  obtain ⟨hm, hk⟩ := (thrB_iff ms kd).1 h
  have eT : thrL ms kd = (thrE (zD ms kd) ms.length).map (thOf ms kd) := by rw [thrL, if_pos h]
  have hasc : Asc (zD ms kd) (thrE (zD ms kd) ms.length) := kru_asc (srtE_ord (zD ms kd) ms.length).asc
  rw [eT, List.length_map] at hi
  rw [eT, tnth_get (by rw [List.length_map]; omega), tnth_get (by rw [List.length_map]; exact hi), List.getElem_map, List.getElem_map]
  have h1 := List.pairwise_iff_getElem.1 hasc i (i + 1) (by omega) hi (by omega)
  have b1 := thrE_lt _ (List.getElem_mem (by omega : i < (thrE (zD ms kd) ms.length).length))
  have b2 := thrE_lt _ (List.getElem_mem hi)
  have e1 : (thOf ms kd (thrE (zD ms kd) ms.length)[i]).2.2 = wt (zD ms kd) (thrE (zD ms kd) ms.length)[i] := (zD_in hm kd hk b1.1 b1.2).symm
  have e2 : (thOf ms kd (thrE (zD ms kd) ms.length)[i + 1]).2.2 = wt (zD ms kd) (thrE (zD ms kd) ms.length)[i + 1] := (zD_in hm kd hk b2.1 b2.2).symm
  rw [e1, e2]
  exact h1
theorem thr_some {ms : List Mk} {kd : Int} (h : 0 < (thrL ms kd).length) : thrB ms kd = true ∧ (thrL ms kd).length + 1 = ms.length := by
  rcases hb : thrB ms kd with _ | _
  · rw [thrL, if_neg (by rw [hb]; simp)] at h; simp at h
  · refine ⟨rfl, ?_⟩
    rw [thrL, if_pos hb, List.length_map] at h ⊢
    rcases Nat.eq_zero_or_pos ms.length with h0 | h0
    · rw [h0] at h
      simp [thrE, srtE, srtOf, pairsTo, kruF] at h
    · exact thrE_len h0

/-- All are in the groups, each once. -/
theorem grp_all (ms : List Mk) (E : List Eg) : lenS (grpOf ms (lab E)) = ms.length := by
  have hok := lab_ok E
  have hrep : ∀ i, i < ms.length → lab E i ∈ (List.range ms.length).filter (fun i => decide (lab E i = i)) := fun i hi => by
    have := hok.le i
    exact List.mem_filter.2 ⟨List.mem_range.2 (by omega), by simpa using hok.idem i⟩
  unfold lenS grpOf
  rw [List.map_map]
  have e1 : (List.length ∘ grpAt ms (lab E)) = fun r => ((List.range ms.length).filter (fun j => decide (lab E j = r))).length := by
    funext r
    simp [Function.comp, grpAt]
  rw [e1, filter_count _ _ (List.Pairwise.filter _ List.nodup_range)]
  rw [List.filter_eq_self.2 (fun j hj => by simpa using hrep j (List.mem_range.1 hj)), List.length_range]
/-- What is picked out of the places, by number, rises. -/
theorem pick_rise {ms : List Mk} (hm : marksB ms = true) (q : Nat → Bool) : (((List.range ms.length).filter q).map (mid ms)).Pairwise (· < ·) := by
  rw [List.pairwise_map]
  have h1 : ((List.range ms.length).filter q).Pairwise (· < ·) := List.Pairwise.filter _ (List.pairwise_lt_range)
  refine List.Pairwise.imp_of_mem (fun {a b} ha hb hab => ?_) h1
  exact zmid_rises hm hab (List.mem_range.1 (List.mem_filter.1 hb).1)
theorem rises_of {xs : List Int} (h : xs.Pairwise (· < ·)) : ∀ j, j + 1 < xs.length → nth xs j < nth xs (j + 1) := fun j hj => by
  have := List.pairwise_iff_getElem.1 h j (j + 1) (by omega) hj (by omega)
  simpa [nth, List.getD, hj, (by omega : j < xs.length)] using this
/-- The first of a group is the one whose label is its own place. -/
theorem grpAt_first {ms : List Mk} {p : Nat → Nat} (hp : ∀ i, p i ≤ i) {r : Nat} (hr : r < ms.length) (hpr : p r = r) : ∃ l, grpAt ms p r = mid ms r :: l := by
  have h1 : ((List.range ms.length).filter (fun j => decide (p j = r))).Pairwise (· < ·) := List.Pairwise.filter _ (List.pairwise_lt_range)
  have h2 : r ∈ (List.range ms.length).filter (fun j => decide (p j = r)) := List.mem_filter.2 ⟨List.mem_range.2 hr, by simpa using hpr⟩
  have h3 : ∀ a ∈ (List.range ms.length).filter (fun j => decide (p j = r)), r ≤ a := fun a ha => by
    have e : p a = r := by simpa using (List.mem_filter.1 ha).2
    have := hp a
    omega
  unfold grpAt
  generalize (List.range ms.length).filter (fun j => decide (p j = r)) = L at *
  match L, h1, h2, h3 with
  | a :: L', h1, h2, h3 =>
    have ha := h3 a (List.mem_cons_self ..)
    have : r = a := by
      rcases List.mem_cons.1 h2 with e | e
      · exact e
      · have := (List.pairwise_cons.1 h1).1 r e; omega
    subst this
    exact ⟨L'.map (mid ms), rfl⟩
/-- What the law asks of the groups. -/
theorem grp_facts {ms : List Mk} {kd k : Int} (h : grpB ms kd k = true) :
    (∀ i, i < (grpL ms kd k).length → (∀ j, j + 1 < (cn (grpL ms kd k) i).length → nth (cn (grpL ms kd k) i) j < nth (cn (grpL ms kd k) i) (j + 1)) ∧ 0 < (cn (grpL ms kd k) i).length) ∧
    (∀ i, i + 1 < (grpL ms kd k).length → nth (cn (grpL ms kd k) i) 0 < nth (cn (grpL ms kd k) (i + 1)) 0) ∧ lenS (grpL ms kd k) = ms.length := by
  obtain ⟨hB, -, -⟩ := (grpB_iff ms kd k).1 h
  obtain ⟨hm, -⟩ := (thrB_iff ms kd).1 hB
  have eL : grpL ms kd k = grpOf ms (lab ((thrE (zD ms kd) ms.length).take (ms.length - k.toNat))) := by rw [grpL, if_pos h]
  rw [eL]
  have hok := lab_ok ((thrE (zD ms kd) ms.length).take (ms.length - k.toNat))
  have hall := grp_all ms ((thrE (zD ms kd) ms.length).take (ms.length - k.toNat))
  have hp := hok.le
  generalize lab ((thrE (zD ms kd) ms.length).take (ms.length - k.toNat)) = p at *
  have hR : ((List.range ms.length).filter (fun i => decide (p i = i))).Pairwise (· < ·) := List.Pairwise.filter _ (List.pairwise_lt_range)
  have hmem : ∀ r ∈ (List.range ms.length).filter (fun i => decide (p i = i)), r < ms.length ∧ p r = r := fun r hr => by
    have := List.mem_filter.1 hr
    exact ⟨List.mem_range.1 this.1, by simpa using this.2⟩
  refine ⟨fun i hi => ?_, fun i hi => ?_, hall⟩
  · rw [cn_at hi]
    have hi' : i < ((List.range ms.length).filter (fun i => decide (p i = i))).length := by simpa [grpOf] using hi
    have e : (grpOf ms p)[i] = grpAt ms p (((List.range ms.length).filter (fun i => decide (p i = i)))[i]) := by simp [grpOf]
    rw [e]
    obtain ⟨h1, h2⟩ := hmem _ (List.getElem_mem hi')
    obtain ⟨l, el⟩ := grpAt_first (ms := ms) hp h1 h2
    exact ⟨rises_of (pick_rise hm _), by rw [el]; simp⟩
  · have hi2 : i + 1 < ((List.range ms.length).filter (fun i => decide (p i = i))).length := by simpa [grpOf] using hi
    have hi1 : i < ((List.range ms.length).filter (fun i => decide (p i = i))).length := by omega
    have hi0 : i < (grpOf ms p).length := by omega
    rw [cn_at hi0, cn_at hi]
    have e1 : (grpOf ms p)[i] = grpAt ms p (((List.range ms.length).filter (fun i => decide (p i = i)))[i]) := by simp [grpOf]
    have e2 : (grpOf ms p)[i + 1] = grpAt ms p (((List.range ms.length).filter (fun i => decide (p i = i)))[i + 1]) := by simp [grpOf]
    rw [e1, e2]
    obtain ⟨a1, a2⟩ := hmem _ (List.getElem_mem hi1)
    obtain ⟨b1, b2⟩ := hmem _ (List.getElem_mem hi2)
    obtain ⟨l1, el1⟩ := grpAt_first (ms := ms) hp a1 a2
    obtain ⟨l2, el2⟩ := grpAt_first (ms := ms) hp b1 b2
    rw [el1, el2]
    have hlt := List.pairwise_iff_getElem.1 hR i (i + 1) hi1 hi2 (by omega)
    simpa [nth] using zmid_rises hm hlt b1

end Go.Proofs.Ytfbindjacmaeoaa
