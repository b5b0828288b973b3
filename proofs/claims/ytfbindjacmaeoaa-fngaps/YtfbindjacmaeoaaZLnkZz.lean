/-
  How the program's least distances and radii (by marks) read as those by places in the list.
-/
import Derived.Test.YtfbindjacmaeoaaZSpecZz
import Derived.Test.YtfbindjacmaeoaaBetZz
import Derived.Test.YtfbindjacmaeoaaZRadZz
namespace Go.Proofs.Ytfbindjacmaeoaa
open Go

theorem mat_map {ms : List Mk} {C : List Nat} {k : Nat} (hk : k < C.length) : mat (C.map (mnth ms)) k = mat ms (C.getD k 0) := by
  simp [mat, List.getD, hk, mnth]
theorem zNear_take {D : Nat → Nat → Int} {i : Nat} {C : List Nat} {k : Nat} (hk : k < C.length) : zNear D i (C.take (k + 1)) = zStep (zNear D i (C.take k)) (D i (C.getD k 0)) := by
  rw [List.take_succ_eq_append_getElem hk]
  unfold zNear
  rw [List.foldl_append]
  simp [List.getD, hk]
theorem gapTo_near {ms : List Mk} (hm : marksB ms = true) {kd : Int} (hkd : kindB kd = true) {C : List Nat} (hC : ∀ c ∈ C, c < ms.length) {i : Nat} (hi : i < ms.length) : ∀ k, k < C.length → gapTo kd (C.map (mnth ms)) (mat ms i) k = zNear (zD ms kd) i (C.take (k + 1)) := by
  have hD : ∀ k, k < C.length → betV (mat (C.map (mnth ms)) k) (mat ms i) kd = zD ms kd i (C.getD k 0) := fun k hk => by
    have hmem : C.getD k 0 ∈ C := by
      have e : C.getD k 0 = C[k] := by simp [List.getD, hk]
      rw [e]; exact List.getElem_mem hk
    rw [mat_map hk, zD_comm, zD_in hm kd hkd (hC _ hmem) hi]
  intro k
  induction k with
  | zero =>
    intro hk
    rw [gapTo, hD 0 hk, zNear_take hk]
    simp [zNear, zStep]
  | succ k ih =>
    intro hk
    rw [gapTo, hD (k + 1) hk, ih (by omega), zNear_take hk]
    have h1 := zNear_pos (D := zD ms kd) (i := i) (fun c => zD_nn ms kd i c) (C := C.take (k + 1)) (by
      intro e
      rcases List.take_eq_nil_iff.1 e with h | h
      · omega
      · subst h; simp at hk)
    unfold zStep
    split <;> omega
theorem gapV_near {ms : List Mk} (hm : marksB ms = true) {kd : Int} (hkd : kindB kd = true) {C : List Nat} (hC : ∀ c ∈ C, c < ms.length) (h0 : C ≠ []) {i : Nat} (hi : i < ms.length) : gapV kd (C.map (mnth ms)) (mat ms i) = zNear (zD ms kd) i C := by
  have hl : 0 < C.length := List.length_pos_iff.2 h0
  unfold gapV
  rw [List.length_map, gapTo_near hm hkd hC hi _ (by omega), List.take_of_length_le (by omega)]
theorem about_rad {ms : List Mk} (hm : marksB ms = true) {kd : Int} (hkd : kindB kd = true) {C : List Nat} (hC : ∀ c ∈ C, c < ms.length) (h0 : C ≠ []) : maxTo (zGapF kd (C.map (mnth ms)) ms) ms.length = zRad (zD ms kd) ms.length C :=
  maxTo_congr _ _ _ (fun _ hi => gapV_near hm hkd hC h0 hi)

theorem sm_at {ds : List Sm} {ms : List Mk} (hds : smMarks ds = ms) {k : Nat} (hk : k < ds.length) : smMark (snth ds k) = mnth ms k ∧ (snth ds k).1 = mid ms k := by
  have h := smMarks_at ds k hk
  rw [hds] at h
  exact ⟨h.symm, by rw [← mnth_1, h]⟩
theorem named_map {ds : List Sm} {ms : List Mk} (hds : smMarks ds = ms) (ids : List Int) : ∀ k, k ≤ ds.length → smMarks (namedD ds ids k) = ((List.range k).filter (fun i => hasB ids (mid ms i))).map (mnth ms) := by
  intro k
  induction k with
  | zero => intro _; simp [namedD, smMarks]
  | succ k ih =>
    intro hk
    obtain ⟨e1, e2⟩ := sm_at hds (k := k) (by omega)
    rw [List.range_succ, List.filter_append, List.map_append, ← ih (by omega)]
    rcases hb : hasB ids (snth ds k).1 with _ | _
    · rw [namedD_no (by omega) hb]
      rw [e2] at hb
      simp [hb]
    · rw [namedD_yes (by omega) hb]
      rw [e2] at hb
      simp only [smMarks, List.map_append, List.map_cons, List.map_nil, e1]
      simp [hb]
theorem hasB_iff (xs : List Int) (x : Int) : hasB xs x = true ↔ x ∈ xs := by simp [hasB]
theorem ids_mid {ds : List Sm} {ms : List Mk} (hds : smMarks ds = ms) {x : Int} : x ∈ ds.map (·.1) ↔ ∃ i, i < ms.length ∧ mid ms i = x := by
  have hl : ds.length = ms.length := by rw [← hds, smMarks_length]
  constructor
  · intro h
    obtain ⟨d, hd, rfl⟩ := List.mem_map.1 h
    obtain ⟨i, hi, rfl⟩ := List.getElem_of_mem hd
    refine ⟨i, by omega, ?_⟩
    rw [← (sm_at hds hi).2, snth_get hi]
  · rintro ⟨i, hi, rfl⟩
    rw [← (sm_at hds (k := i) (by omega)).2]
    exact List.mem_map.2 ⟨_, snth_mem (by omega), rfl⟩
theorem find_iff (ms : List Mk) (x : Int) : 0 ≤ zFind ms x ↔ ∃ i, i < ms.length ∧ mid ms i = x := by
  constructor
  · intro h
    obtain ⟨a, -, c⟩ := zIdx_lt h
    exact ⟨_, a, c⟩
  · rintro ⟨i, hi, e⟩
    rcases Int.lt_or_le (zFind ms x) 0 with h1 | h1
    · exact absurd e (zFindTo_no h1 i hi)
    · exact h1
theorem all_found {ds : List Sm} {ms : List Mk} (hds : smMarks ds = ms) (ids : List Int) : allB ids (ds.map (·.1)) = true ↔ ∀ id ∈ ids, 0 ≤ zFind ms id := by
  simp only [allB, List.all_eq_true, hasB_iff]
  exact ⟨fun h id hid => (find_iff ms id).2 ((ids_mid hds).1 (h id hid)), fun h id hid => (ids_mid hds).2 ((find_iff ms id).1 (h id hid))⟩
/-- Those whose number is named. -/
def namedC (ms : List Mk) (ids : List Int) : List Nat := (List.range ms.length).filter (fun i => hasB ids (mid ms i))
theorem namedC_lt {ms : List Mk} {ids : List Int} : ∀ c ∈ namedC ms ids, c < ms.length := fun _ hc => List.mem_range.1 (List.mem_filter.1 hc).1
theorem namedC_iff {ms : List Mk} {ids : List Int} (hm : marksB ms = true) (hf : ∀ id ∈ ids, 0 ≤ zFind ms id) (c : Nat) : c ∈ namedC ms ids ↔ c ∈ ids.map (zIdx ms) := by
  unfold namedC
  rw [List.mem_filter, List.mem_range, List.mem_map]
  constructor
  · rintro ⟨h1, h2⟩
    exact ⟨mid ms c, (hasB_iff _ _).1 h2, (zFind_mid hm h1).2⟩
  · rintro ⟨id, hid, rfl⟩
    obtain ⟨a, -, e⟩ := zIdx_lt (hf id hid)
    exact ⟨a, by rw [e]; exact (hasB_iff _ _).2 hid⟩
theorem namedC_ne {ms : List Mk} {ids : List Int} (hm : marksB ms = true) (hf : ∀ id ∈ ids, 0 ≤ zFind ms id) (h0 : ids.length ≠ 0) : namedC ms ids ≠ [] := fun e => by
  cases ids with
  | nil => simp at h0
  | cons x ids =>
    have := (namedC_iff hm hf (zIdx ms x)).2 (List.mem_map_of_mem (List.mem_cons_self ..))
    rw [e] at this
    simp at this
theorem named_rad {ms : List Mk} (hm : marksB ms = true) {kd : Int} (hkd : kindB kd = true) {ids : List Int} (hf : ∀ id ∈ ids, 0 ≤ zFind ms id) (h0 : ids.length ≠ 0) : maxTo (zGapF kd ((namedC ms ids).map (mnth ms)) ms) ms.length = radI ms ids kd := by
  rw [radI_good hm h0 hkd hf, zRadI_eq hm kd hkd ids hf, about_rad hm hkd namedC_lt (namedC_ne hm hf h0)]
  exact zRad_same (zD_nn ms kd) _ (namedC_ne hm hf h0) (namedC_iff hm hf)

end Go.Proofs.Ytfbindjacmaeoaa
