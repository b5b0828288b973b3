/-
  All gatherings in memory: a row of them, each with variables of its own.
-/
import Derived.Test.YthcjkneifkmkdaaJAdd
namespace Go.Proofs.Ythcjkneifkmkdaa
open Go Go.RowKit

structure GAll (w : World) (A n : Nat) (Q : Nat → Gq) (ctr : Nat → Value) (many cost : Nat → Int) (gs : Nat → Nat) (S : Nat → List Int) : Prop where
  here : ∀ i, i < n → GatAt w (Q i) (ctr i) (many i) (cost i) (gs i) (S i)
  nod : ∀ i, i < n → (gatL (Q i)).Nodup
  dis : ∀ i j, i < n → j < n → i ≠ j → ∀ b ∈ gatL (Q i), b ∉ gatL (Q j)
  rows : ∀ i j, i < n → j < n → gs i ∉ gatL (Q j)
  rowA : ∀ i, i < n → A < gs i
  up : ∀ i, i < n → ∀ b ∈ gatL (Q i), A < b
  cells : ∀ i, i < n → w.cell? ⟨A, i * 3, none⟩ = some (addV (Q i)) ∧ w.cell? ⟨A, i * 3 + 1, none⟩ = some (cstV (Q i)) ∧ w.cell? ⟨A, i * 3 + 2, none⟩ = some (menV (Q i))
  lt : A < w.heap.size
theorem GatAt.lts {w : World} {q : Gq} {c : Value} {m k : Int} {g : Nat} {s : List Int} (h : GatAt w q c m k g s) : ∀ b ∈ gatL q, b < w.heap.size := by
  have lt : ∀ {b : Nat} {o : Obj}, w.heap[b]? = some o → b < w.heap.size := fun e => (Array.getElem?_eq_some_iff.1 e).1
  intro b hb
  simp [gatL] at hb
  rcases hb with h1 | h1 | h1 | h1
  · rw [h1]; exact lt h.hctr
  · rw [h1]; exact lt h.hmany
  · rw [h1]; exact lt h.hcost
  · rw [h1]; exact lt h.hsums
theorem GAll.both {w : World} {A n : Nat} {Q : Nat → Gq} {ctr : Nat → Value} {many cost : Nat → Int} {gs : Nat → Nat} {S : Nat → List Int} (h : GAll w A n Q ctr many cost gs S) {i : Nat} (hi : i < n) : (gs i :: gatL (Q i)).Nodup :=
  List.nodup_cons.2 ⟨h.rows i i hi hi, h.nod i hi⟩
theorem GAll.below {w w' : World} {A n : Nat} {Q : Nat → Gq} {ctr : Nat → Value} {many cost : Nat → Int} {gs : Nat → Nat} {S : Nat → List Int} (h : GAll w A n Q ctr many cost gs S) (hb : Below w.heap.size w w') : GAll w' A n Q ctr many cost gs S :=
  ⟨fun i hi => (h.here i hi).below hb, h.nod, h.dis, h.rows, h.rowA, h.up, fun i hi => by
    obtain ⟨c1, c2, c3⟩ := h.cells i hi
    exact ⟨(hb.cell (p := ⟨A, i * 3, none⟩) h.lt).trans c1, (hb.cell (p := ⟨A, i * 3 + 1, none⟩) h.lt).trans c2, (hb.cell (p := ⟨A, i * 3 + 2, none⟩) h.lt).trans c3⟩, Nat.lt_of_lt_of_le h.lt hb.size⟩
theorem GAll.congr {w : World} {A n : Nat} {Q : Nat → Gq} {ctr ctr' : Nat → Value} {many cost many' cost' : Nat → Int} {gs : Nat → Nat} {S S' : Nat → List Int} (h : GAll w A n Q ctr many cost gs S) (e : ∀ i, i < n → ctr i = ctr' i ∧ many i = many' i ∧ cost i = cost' i ∧ S i = S' i) : GAll w A n Q ctr' many' cost' gs S' :=
  ⟨fun i hi => by obtain ⟨e1, e2, e3, e4⟩ := e i hi; rw [← e1, ← e2, ← e3, ← e4]; exact h.here i hi, h.nod, h.dis, h.rows, h.rowA, h.up, h.cells, h.lt⟩
def upd {α : Type} (f : Nat → α) (i : Nat) (v : α) (j : Nat) : α := if j = i then v else f j
theorem upd_same {α : Type} (f : Nat → α) (i : Nat) (v : α) : upd f i v i = v := if_pos rfl
theorem upd_other {α : Type} (f : Nat → α) {i j : Nat} (v : α) (h : j ≠ i) : upd f i v j = f j := if_neg h
/-- One of them has one mark more. -/
theorem GAll.add {w w' : World} {A n : Nat} {Q : Nat → Gq} {ctr : Nat → Value} {many cost : Nat → Int} {gs : Nat → Nat} {S : Nat → List Int} (h : GAll w A n Q ctr many cost gs S) {i : Nat} (hi : i < n) {m' k' : Int} {g' : Nat} {s' : List Int}
    (hG : GatAt w' (Q i) (ctr i) m' k' g' s') (hg : w.heap.size ≤ g') (hc : ChgQ [(Q i).2.1, (Q i).2.2.1, (Q i).2.2.2] w w') : GAll w' A n Q ctr (upd many i m') (upd cost i k') (upd gs i g') (upd S i s') := by
  have hsub : ∀ b, b ∈ [(Q i).2.1, (Q i).2.2.1, (Q i).2.2.2] → b ∈ gatL (Q i) := fun b hb => by simp [gatL] at hb ⊢; omega
  have hA : A ∉ [(Q i).2.1, (Q i).2.2.1, (Q i).2.2.2] := fun hm => by have := h.up i hi A (hsub A hm); omega
  have hcell : ∀ k, w'.cell? ⟨A, k, none⟩ = w.cell? ⟨A, k, none⟩ := fun k => World.cell?_of_block (w := w) (a := ⟨A, k, none⟩) (hc.2.2.2.2 A h.lt hA)
  refine ⟨fun j hj => ?_, h.nod, h.dis, fun j k hj hk => ?_, fun j hj => ?_, h.up, fun j hj => ?_, Nat.lt_of_lt_of_le h.lt hc.2.2.2.1⟩
  · by_cases e : j = i
    · subst e
      rw [upd_same, upd_same, upd_same, upd_same]; exact hG
    · rw [upd_other _ _ e, upd_other _ _ e, upd_other _ _ e, upd_other _ _ e]
      refine (h.here j hj).chgQ hc (fun b hb hm => ?_)
      rcases List.mem_cons.1 hb with h1 | h1
      · subst h1; exact h.rows j i hj hi (hsub _ hm)
      · exact h.dis j i hj hi e b h1 (hsub b hm)
  · by_cases e : j = i
    · subst e
      rw [upd_same]
      intro hm
      have := (h.here k hk).lts g' hm
      omega
    · rw [upd_other _ _ e]; exact h.rows j k hj hk
  · by_cases e : j = i
    · subst e
      rw [upd_same]
      have := h.lt
      omega
    · rw [upd_other _ _ e]; exact h.rowA j hj
  · rw [hcell, hcell, hcell]; exact h.cells j hj
/-- One more of them: what gatheringAt made is laid into the row. -/
theorem GAll.snoc {w w1 : World} {A n : Nat} {Q : Nat → Gq} {ctr : Nat → Value} {many cost : Nat → Int} {gs : Nat → Nat} {S : Nat → List Int} (h : GAll w A n Q ctr many cost gs S) (hb : Below w.heap.size w w1) {q : Gq} {c : Value} {m k : Int} {g : Nat} {s : List Int}
    (hG : GatAt w1 q c m k g s) (hd : (g :: gatL q).Nodup) (hu : ∀ b ∈ g :: gatL q, w.heap.size ≤ b) (hA : ∀ j, j < 3 → ∃ v, w1.cell? ⟨A, n * 3 + j, none⟩ = some v) :
    GAll (((w1.setCell ⟨A, n * 3, none⟩ (addV q)).setCell ⟨A, n * 3 + 1, none⟩ (cstV q)).setCell ⟨A, n * 3 + 2, none⟩ (menV q)) A (n + 1) (upd Q n q) (upd ctr n c) (upd many n m) (upd cost n k) (upd gs n g) (upd S n s) := by
  have h1 := h.below hb
  have hlt := h.lt
  have hch : ChgQ [A] w1 (((w1.setCell ⟨A, n * 3, none⟩ (addV q)).setCell ⟨A, n * 3 + 1, none⟩ (cstV q)).setCell ⟨A, n * 3 + 2, none⟩ (menV q)) := (((ChgQ.refl [A] w1).set (by simp) _).set (by simp) _).set (by simp) _
  have hold : ∀ i, i < n → ∀ b ∈ gatL (Q i), b < w.heap.size := fun i hi => (h.here i hi).lts
  have hog : ∀ i, i < n → gs i < w.heap.size := fun i hi => (h.here i hi).hrow.lt
  refine ⟨fun i hi => ?_, fun i hi => ?_, fun i j hi hj hij b hbi hbj => ?_, fun i j hi hj hm => ?_, fun i hi => ?_, fun i hi b hbi => ?_, fun i hi => ?_, by rw [setCell_size, setCell_size, setCell_size]; exact h1.lt⟩
  · by_cases e : i = n
    · subst e
      simp only [upd_same]
      refine hG.chgQ hch (fun b hb' hm => ?_)
      have := hu b hb'
      simp at hm
      omega
    · have hi' : i < n := by omega
      simp only [upd_other _ _ e]
      refine (h1.here i hi').chgQ hch (fun b hb' hm => ?_)
      simp at hm
      rcases List.mem_cons.1 hb' with e1 | e1
      · have := h.rowA i hi'; omega
      · have := h.up i hi' b e1; omega
  · by_cases e : i = n
    · subst e; rw [upd_same]; exact (List.nodup_cons.1 hd).2
    · rw [upd_other _ _ e]; exact h.nod i (by omega)
  · by_cases e : i = n
    · subst e
      rw [upd_same] at hbi
      have e2 : j ≠ i := fun e => hij e.symm
      rw [upd_other _ _ e2] at hbj
      have := hold j (by omega) b hbj
      have := hu b (List.mem_cons_of_mem _ hbi)
      omega
    · rw [upd_other _ _ e] at hbi
      by_cases e2 : j = n
      · subst e2
        rw [upd_same] at hbj
        have := hold i (by omega) b hbi
        have := hu b (List.mem_cons_of_mem _ hbj)
        omega
      · rw [upd_other _ _ e2] at hbj
        exact h.dis i j (by omega) (by omega) hij b hbi hbj
  · by_cases e : i = n
    · subst e
      rw [upd_same] at hm
      by_cases e2 : j = i
      · subst e2
        rw [upd_same] at hm
        exact (List.nodup_cons.1 hd).1 hm
      · rw [upd_other _ _ e2] at hm
        have := hold j (by omega) g hm
        have := hu g (List.mem_cons_self ..)
        omega
    · rw [upd_other _ _ e] at hm
      by_cases e2 : j = n
      · subst e2
        rw [upd_same] at hm
        have := hog i (by omega)
        have := hu (gs i) (List.mem_cons_of_mem _ hm)
        omega
      · rw [upd_other _ _ e2] at hm
        exact h.rows i j (by omega) (by omega) hm
  · by_cases e : i = n
    · subst e
      rw [upd_same]
      have := hu g (List.mem_cons_self ..)
      omega
    · rw [upd_other _ _ e]; exact h.rowA i (by omega)
  · by_cases e : i = n
    · subst e
      rw [upd_same] at hbi
      have := hu b (List.mem_cons_of_mem _ hbi)
      omega
    · rw [upd_other _ _ e] at hbi; exact h.up i (by omega) b hbi
  · by_cases e : i = n
    · subst e
      rw [upd_same]
      obtain ⟨v0, e0⟩ := hA 0 (by omega)
      obtain ⟨v1, e1⟩ := hA 1 (by omega)
      obtain ⟨v2, e2⟩ := hA 2 (by omega)
      rw [Nat.add_zero] at e0
      refine ⟨?_, ?_, ?_⟩
      · rw [cell_setOther _ _ _ _ _ (by omega), cell_setOther _ _ _ _ _ (by omega)]; exact World.cell?_setCell_same _ _ _ e0
      · rw [cell_setOther _ _ _ _ _ (by omega)]; exact World.cell?_setCell_same _ _ _ (u := v1) (by rw [cell_setOther _ _ _ _ _ (by omega)]; exact e1)
      · exact World.cell?_setCell_same _ _ _ (u := v2) (by rw [cell_setOther _ _ _ _ _ (by omega), cell_setOther _ _ _ _ _ (by omega)]; exact e2)
    · rw [upd_other _ _ e]
      obtain ⟨c1, c2, c3⟩ := h1.cells i (by omega)
      refine ⟨?_, ?_, ?_⟩
      · rw [cell_setOther _ _ _ _ _ (by omega), cell_setOther _ _ _ _ _ (by omega), cell_setOther _ _ _ _ _ (by omega)]; exact c1
      · rw [cell_setOther _ _ _ _ _ (by omega), cell_setOther _ _ _ _ _ (by omega), cell_setOther _ _ _ _ _ (by omega)]; exact c2
      · rw [cell_setOther _ _ _ _ _ (by omega), cell_setOther _ _ _ _ _ (by omega), cell_setOther _ _ _ _ _ (by omega)]; exact c3
theorem GAll.none (w : World) (A : Nat) (h : A < w.heap.size) : GAll w A 0 (fun _ => (0, 0, 0, 0)) (fun _ => undef) (fun _ => 0) (fun _ => 0) (fun _ => 0) (fun _ => []) :=
  ⟨fun i hi => by omega, fun i hi => by omega, fun i j hi => by omega, fun i j hi => by omega, fun i hi => by omega, fun i hi => by omega, fun i hi => by omega, h⟩

end Go.Proofs.Ythcjkneifkmkdaa
