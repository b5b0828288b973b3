/-
  The program's MarksOk answers marksB.
-/
import Derived.Test.YthkaiienfkihmaaMOk2
namespace Go.Proofs.Ythkaiienfkihmaa
open Go Go.RowKit

theorem goodM_iff (m : Mk) : goodM m = true ↔ 1 ≤ m.1 ∧ m.1 ≤ 1000000 ∧ okB m.2 = true := by simp [goodM, inR, and_assoc]
theorem followsM_iff (m l : Mk) : followsM m l = true ↔ l.1 < m.1 ∧ m.2.length = l.2.length := by simp [followsM]
theorem mOk_zero {ms : List Mk} (h : goodM (mnth ms 0) = true) : mOkAt ms 0 = true := by
  rw [goodM_iff] at h
  exact (mOkAt_iff ms 0).2 ⟨h.1, h.2.1, h.2.2, rfl, Or.inl rfl⟩
theorem mOk_next {ms : List Mk} {j : Nat} (hp : mOkAt ms j = true) (h : goodM (mnth ms (j + 1)) = true) (hf : followsM (mnth ms (j + 1)) (mnth ms j) = true) : mOkAt ms (j + 1) = true := by
  rw [goodM_iff] at h
  rw [followsM_iff] at hf
  have := (mOkAt_iff ms j).1 hp
  exact (mOkAt_iff ms (j + 1)).2 ⟨h.1, h.2.1, h.2.2, hf.2.trans this.2.2.2.1, Or.inr hf.1⟩
theorem mOk_bad {ms : List Mk} {k : Nat} (h : goodM (mnth ms k) = false) : mOkAt ms k = false :=
  mOkAt_false ms k fun hh => by rw [(goodM_iff (mnth ms k)).2 ⟨hh.1, hh.2.1, hh.2.2.1⟩] at h; cases h
theorem mOk_apart {ms : List Mk} {j : Nat} (hp : mOkAt ms j = true) (hf : followsM (mnth ms (j + 1)) (mnth ms j) = false) : mOkAt ms (j + 1) = false :=
  mOkAt_false ms (j + 1) fun hh => by
    have := (mOkAt_iff ms j).1 hp
    have h5 := hh.2.2.2.2
    simp at h5
    rw [(followsM_iff (mnth ms (j + 1)) (mnth ms j)).2 ⟨h5, hh.2.2.2.1.trans this.2.2.2.1.symm⟩] at hf
    cases hf

end Go.Proofs.Ythkaiienfkihmaa
