/-
  Plain mathematics for the laws of chapter 4 (no program is named here): boxes.
-/
import Derived.Test.YthkaiienfkihmaaMarks
namespace Go.Proofs.Ythkaiienfkihmaa

/-- A box: its low end and its high end. -/
abbrev Bx := List Int × List Int
def sideB (b : Bx) (i : Nat) : Bool := decide (nth b.1 i ≤ nth b.2 i)
def boxB (b : Bx) : Bool := twoB b.1 b.2 && (List.range b.1.length).all (sideB b)
def toldX (b : Bx) (p : List Int) : Bool := boxB b && twoB b.1 p
def outF (b : Bx) (p : List Int) (i : Nat) : Int := maxV 0 (maxV (nth b.1 i - nth p i) (nth p i - nth b.2 i))
def outQ (b : Bx) (p : List Int) (i : Nat) : Int := outF b p i * outF b p i
def endF (b : Bx) (p : List Int) (i : Nat) : Int := maxV (absV (nth p i - nth b.1 i)) (absV (nth p i - nth b.2 i))
def endQ (b : Bx) (p : List Int) (i : Nat) : Int := endF b p i * endF b p i
def toBoxV (b : Bx) (p : List Int) : Int := if toldX b p = true then sumTo (outQ b p) p.length else -1
def cornerV (b : Bx) (p : List Int) : Int := if toldX b p = true then sumTo (endQ b p) p.length else -1
def insideB (b : Bx) (p : List Int) : Bool := toldX b p && decide (toBoxV b p = 0)
def lowTo (ms : List Mk) (k : Nat) : Nat → Int
  | 0 => nth (mat ms 0) k
  | j + 1 => min (lowTo ms k j) (nth (mat ms (j + 1)) k)
def highTo (ms : List Mk) (k : Nat) : Nat → Int
  | 0 => nth (mat ms 0) k
  | j + 1 => maxV (highTo ms k j) (nth (mat ms (j + 1)) k)
def lowL (ms : List Mk) (j : Nat) : List Int := tabL (fun k => lowTo ms k j) (mat ms 0).length
def highL (ms : List Mk) (j : Nat) : List Int := tabL (fun k => highTo ms k j) (mat ms 0).length
def aroundV (ms : List Mk) : Bx := if ms.length = 0 ∨ marksB ms = false then ([], []) else (lowL ms (ms.length - 1), highL ms (ms.length - 1))
def shLow (a b : Bx) (i : Nat) : Int := maxV (nth a.1 i) (nth b.1 i)
def shHigh (a b : Bx) (i : Nat) : Int := min (nth a.2 i) (nth b.2 i)
def shBox (a b : Bx) : Bx := (tabL (shLow a b) a.1.length, tabL (shHigh a b) a.1.length)
def shOkB (a b : Bx) : Bool := boxB a && boxB b && decide (a.1.length = b.1.length) && boxB (shBox a b)
def sharedV (a b : Bx) : Bx := if shOkB a b = true then shBox a b else ([], [])

theorem boxB_two {b : Bx} (h : boxB b = true) : twoB b.1 b.2 = true := by simp [boxB] at h; exact h.1
theorem boxB_at {b : Bx} (h : boxB b = true) {i : Nat} (hi : i < b.1.length) : nth b.1 i ≤ nth b.2 i := by
  simp only [boxB, Bool.and_eq_true, List.all_eq_true] at h
  have := h.2 i (List.mem_range.2 hi)
  simpa [sideB] using this
theorem boxB_not {b : Bx} (h : twoB b.1 b.2 = false) : boxB b = false := by simp [boxB, h]
theorem boxB_out {b : Bx} {i : Nat} (hi : i < b.1.length) (h : nth b.1 i > nth b.2 i) : boxB b = false := by
  rcases hb : boxB b with _ | _
  · rfl
  · have := boxB_at hb hi; omega
theorem boxB_mk {b : Bx} (h : twoB b.1 b.2 = true) (hs : ∀ i, i < b.1.length → nth b.1 i ≤ nth b.2 i) : boxB b = true := by
  simp only [boxB, Bool.and_eq_true, List.all_eq_true]
  exact ⟨h, fun i hi => by simp [sideB]; exact hs i (List.mem_range.1 hi)⟩
theorem toldX_of {b : Bx} {p : List Int} (h : toldX b p = true) : boxB b = true ∧ twoB b.1 p = true := by simpa [toldX] using h
theorem outF_bd {b : Bx} {p : List Int} (h : toldX b p = true) (i : Nat) : 0 ≤ outF b p i ∧ outF b p i ≤ 2000 := by
  obtain ⟨h1, h2⟩ := toldX_of h
  obtain ⟨a1, a2, _⟩ := twoB_of (boxB_two h1)
  obtain ⟨_, a3, _⟩ := twoB_of h2
  have x1 := okB_at a1 i
  have x2 := okB_at a2 i
  have x3 := okB_at a3 i
  unfold outF maxV
  omega
theorem endF_bd {b : Bx} {p : List Int} (h : toldX b p = true) (i : Nat) : 0 ≤ endF b p i ∧ endF b p i ≤ 2000 := by
  obtain ⟨h1, h2⟩ := toldX_of h
  obtain ⟨a1, a2, _⟩ := twoB_of (boxB_two h1)
  obtain ⟨_, a3, _⟩ := twoB_of h2
  have x1 := okB_at a1 i
  have x2 := okB_at a2 i
  have x3 := okB_at a3 i
  unfold endF maxV absV
  omega
theorem sq_bd {x : Int} (h : 0 ≤ x ∧ x ≤ 2000) : 0 ≤ x * x ∧ x * x ≤ 4000000 := by
  refine ⟨Int.mul_nonneg h.1 h.1, ?_⟩
  have := Int.mul_le_mul h.2 h.2 h.1 (by omega : (0 : Int) ≤ 2000)
  omega
theorem outQ_bd {b : Bx} {p : List Int} (h : toldX b p = true) (i : Nat) : 0 ≤ outQ b p i ∧ outQ b p i ≤ 4000000 := sq_bd (outF_bd h i)
theorem endQ_bd {b : Bx} {p : List Int} (h : toldX b p = true) (i : Nat) : 0 ≤ endQ b p i ∧ endQ b p i ≤ 4000000 := sq_bd (endF_bd h i)

end Go.Proofs.Ythkaiienfkihmaa
