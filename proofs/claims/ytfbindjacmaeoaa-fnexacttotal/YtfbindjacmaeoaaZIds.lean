/-
  Plain mathematics for the laws of chapter 11: marks told by their numbers.
-/
import Derived.Test.YtfbindjacmaeoaaZSide
namespace Go.Proofs.Ytfbindjacmaeoaa

/-- Of the first m the first one with this number; -1 of none. -/
def zFindTo (ms : List Mk) (id : Int) : Nat → Int
  | 0 => -1
  | m + 1 => if 0 ≤ zFindTo ms id m then zFindTo ms id m else if mid ms m = id then (m : Int) else -1
def zFind (ms : List Mk) (id : Int) : Int := zFindTo ms id ms.length
def zIdx (ms : List Mk) (id : Int) : Nat := (zFind ms id).toNat
theorem zFindTo_bd (ms : List Mk) (id : Int) (m : Nat) : -1 ≤ zFindTo ms id m ∧ zFindTo ms id m < m ∧ (0 ≤ zFindTo ms id m → mid ms (zFindTo ms id m).toNat = id) := by
  induction m with
  | zero => simp [zFindTo]
  | succ m ih =>
    simp only [zFindTo]
    split
    · exact ⟨ih.1, by omega, ih.2.2⟩
    · split
      · rename_i h
        exact ⟨by omega, by omega, fun _ => by simpa using h⟩
      · exact ⟨by omega, by omega, fun h => by omega⟩
theorem zFindTo_no {ms : List Mk} {id : Int} {m : Nat} (h : zFindTo ms id m < 0) : ∀ j, j < m → mid ms j ≠ id := by
  induction m with
  | zero => intro j hj; omega
  | succ m ih =>
    simp only [zFindTo] at h
    intro j hj
    by_cases h0 : 0 ≤ zFindTo ms id m
    · rw [if_pos h0] at h; omega
    · rw [if_neg h0] at h
      rcases Nat.lt_or_ge j m with h1 | h1
      · exact ih (by omega) j h1
      · rw [show j = m by omega]
        intro e
        rw [if_pos e] at h
        omega
theorem zIdx_lt {ms : List Mk} {id : Int} (h : 0 ≤ zFind ms id) : zIdx ms id < ms.length ∧ ((zIdx ms id : Nat) : Int) = zFind ms id ∧ mid ms (zIdx ms id) = id := by
  have := zFindTo_bd ms id ms.length
  unfold zIdx zFind at *
  exact ⟨by omega, by omega, this.2.2 h⟩
theorem zmid_rises {ms : List Mk} (h : marksB ms = true) {i j : Nat} (hij : i < j) (hj : j < ms.length) : mid ms i < mid ms j := by
  induction j with
  | zero => omega
  | succ j ih =>
    have h1 := ((mOkAt_iff ms (j + 1)).1 (marksB_at h hj)).2.2.2.2
    simp at h1
    rcases Nat.lt_or_ge i j with h2 | h2
    · have := ih h2 (by omega); omega
    · rw [show i = j by omega]; exact h1
theorem zmid_inj {ms : List Mk} (h : marksB ms = true) {i j : Nat} (hi : i < ms.length) (hj : j < ms.length) (e : mid ms i = mid ms j) : i = j := by
  rcases Nat.lt_trichotomy i j with h1 | h1 | h1
  · have := zmid_rises h h1 hj; omega
  · exact h1
  · have := zmid_rises h h1 hi; omega
theorem zFind_mid {ms : List Mk} (h : marksB ms = true) {i : Nat} (hi : i < ms.length) : zFind ms (mid ms i) = i ∧ zIdx ms (mid ms i) = i := by
  have hp : 0 ≤ zFind ms (mid ms i) := by
    rcases Int.lt_or_le (zFind ms (mid ms i)) 0 with h1 | h1
    · exact absurd rfl (zFindTo_no h1 i hi)
    · exact h1
  obtain ⟨a, b, c⟩ := zIdx_lt hp
  have e := zmid_inj h a hi c
  exact ⟨by omega, e⟩
/-- The least distance of a place to those with some numbers. -/
def zNearI (ms : List Mk) (kd : Int) (p : List Int) (ids : List Int) : Int := ids.foldl (fun n id => zStep n (betV p (mat ms (zIdx ms id)) kd)) (-1)
theorem zNearI_eq {ms : List Mk} (h : marksB ms = true) (kd : Int) (hk : kindB kd = true) {i : Nat} (hi : i < ms.length) (ids : List Int) (hf : ∀ id ∈ ids, 0 ≤ zFind ms id) : zNearI ms kd (mat ms i) ids = zNear (zD ms kd) i (ids.map (zIdx ms)) := by
  unfold zNearI zNear
  rw [List.foldl_map]
  generalize (-1 : Int) = a
  induction ids generalizing a with
  | nil => rfl
  | cons x ids ih =>
    simp only [List.foldl_cons]
    rw [zD_in h kd hk hi (zIdx_lt (hf x (List.mem_cons_self ..))).1]
    exact ih (fun id hid => hf id (List.mem_cons_of_mem _ hid)) _
theorem zIdx_map {ms : List Mk} (h : marksB ms = true) {L : List Nat} (hL : ∀ c ∈ L, c < ms.length) : (L.map (mid ms)).map (zIdx ms) = L := by
  rw [List.map_map]
  induction L with
  | nil => rfl
  | cons x L ih =>
    simp only [List.map_cons, Function.comp]
    rw [(zFind_mid h (hL x (List.mem_cons_self ..))).2]
    congr 1
    exact ih (fun c hc => hL c (List.mem_cons_of_mem _ hc))
theorem zFind_map {ms : List Mk} (h : marksB ms = true) {L : List Nat} (hL : ∀ c ∈ L, c < ms.length) : ∀ id ∈ L.map (mid ms), 0 ≤ zFind ms id := fun id hid => by
  obtain ⟨c, hc, rfl⟩ := List.mem_map.1 hid
  have := (zFind_mid h (hL c hc)).1
  omega
/-- Chosen, Radius, BestRadius, plainly. -/
def chosB (ms : List Mk) (k kd : Int) : Bool := marksB ms && decide (1 ≤ k) && decide (k ≤ ms.length) && kindB kd
def choL (ms : List Mk) (k kd : Int) : List Int := if chosB ms k kd = true then (zCho (zD ms kd) ms.length k.toNat).map (mid ms) else []
def radB (ms : List Mk) (ids : List Int) (kd : Int) : Bool := marksB ms && decide (ids.length ≠ 0) && kindB kd && ids.all (fun id => decide (0 ≤ zFind ms id))
def radI (ms : List Mk) (ids : List Int) (kd : Int) : Int := if radB ms ids kd = true then zRad (zD ms kd) ms.length (ids.map (zIdx ms)) else -1
def bradB (ms : List Mk) (k kd : Int) : Bool := chosB ms k kd && decide (ms.length ≤ 8)
def bradI (ms : List Mk) (k kd : Int) : Int := if bradB ms k kd = true then zBest (zD ms kd) ms.length k.toNat [] 0 else -1

end Go.Proofs.Ytfbindjacmaeoaa
