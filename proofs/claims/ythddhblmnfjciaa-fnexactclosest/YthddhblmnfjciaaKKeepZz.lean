/-
  What an answer of knots goes through in the laws: it reads as knots, it is written over, it is held.
-/
import Derived.Test.YthddhblmnfjciaaKTopZz
import Derived.Test.YthddhblmnfjciaaMMarkZz
namespace Go.Proofs.Ythddhblmnfjciaa
open Go Go.RowKit

/-- A slice that reads as the knots ks. -/
def KSee (w : World) (v : Value) (ks : List Kn) : Prop := ∃ ao c, v = .slice ao ks.length c ∧ KView w ao ks
theorem KSee.next {w w' : World} {v : Value} {ks : List Kn} (h : KSee w v ks) (hw : Below w.heap.size w w') : KSee w' v ks := by
  obtain ⟨ao, c, e, hv⟩ := h
  exact ⟨ao, c, e, hv.next hw⟩
theorem KGot.see {B : Nat} {w : World} {v : Value} {ks : List Kn} (h : KGot B w v ks) : KSee w v ks := h.view
theorem eqG (v v' : Value) (ks : List Kn) (w : World) (h : KSee w v ks) (h' : KSee w v' ks) (hsm : KSmall ks) :
    Calls Try.prog 18 #[v, v'] w fun e w' => e = .returned (.bool true) ∧ Below w.heap.size w w' := by
  obtain ⟨ao, c, rfl, hv⟩ := h
  obtain ⟨ao', c', rfl, hv'⟩ := h'
  exact eqKS ao ao' c c' ks w hv hv' hsm

theorem knth_mem {ks : List Kn} {i : Nat} (h : i < ks.length) : knth ks i ∈ ks := by simp [knth, List.getD, h]
theorem halved_at (ms : List Mk) : ∀ k ∈ halvedV ms, k.1.2.length ≤ 4 := by
  intro k hk
  unfold halvedV at hk
  split at hk
  · rename_i hm
    have h1 : k.1 ∈ (treeF 60 ms 0).marks := by rw [← Tr.flat_marks _ 0]; exact List.mem_map_of_mem hk
    have h2 := (treeF_marks 60 ms 0 (marksB_len hm)).mem_iff.1 h1
    obtain ⟨dim, _, hd4, hdim⟩ := marks_dim hm (List.length_pos_of_mem h2)
    rw [hdim _ h2]; exact hd4
  · cases hk
theorem halved_len (ms : List Mk) : (halvedV ms).length ≤ 60 := by
  unfold halvedV
  split
  · rename_i hm
    rw [Tr.flat_length, treeF_size _ _ _ (marksB_len hm)]; exact marksB_len hm
  · simp
theorem halved_small (ms : List Mk) : KSmall (halvedV ms) := by
  refine ⟨by have := halved_len ms; omega, fun i => ?_⟩
  rcases Nat.lt_or_ge i (halvedV ms).length with h | h
  · have := halved_at ms _ (knth_mem h); omega
  · simp [knth, List.getD, h]

/-- Knots that were written over from 1 on, N behind them. -/
def KMk (B : Nat) (w : World) (v : Value) (N : Int) : Prop := (v = .slice none 0 0 ∧ N = 1) ∨ ∃ g c es, v = .slice (some ⟨g, 0, none⟩) es.length c ∧ N = mkN 1 es ∧ KRow B w g c (mkL 1 es) ∧ KOuts B w g (mkL 1 es) ∧ (∀ d ∈ es, d.1.2.2.2.length ≤ 4) ∧ es.length ≤ 60
theorem KMk.below {B : Nat} {w w' : World} {v : Value} {N : Int} (h : KMk B w v N) (hw : Below w.heap.size w w') : KMk B w' v N :=
  h.imp id fun ⟨g, c, es, e, e2, r, o, h4, hn⟩ => ⟨g, c, es, e, e2, r.below hw, o.below hw, h4, hn⟩
theorem KChg.below {B : Nat} {w w1 w2 : World} (h : Below w.heap.size w w1) (k : KChg B w1 w2) (hb : w.heap.size ≤ B) : Below w.heap.size w w2 :=
  ⟨k.1.trans h.os, k.2.1.trans h.tape, k.2.2.1.trans h.output, Nat.le_trans h.size k.2.2.2.1, fun i hi => (k.2.2.2.2 i (Nat.lt_of_lt_of_le hi h.size) (by omega)).trans (h.block i hi)⟩

theorem KGot.gin {B lo hi : Nat} {w w' : World} {v : Value} {ks : List Kn} (h : KGot B w v ks) (g : GIn lo hi w w') (hb : hi ≤ B) : KGot B w' v ks := by
  refine h.imp id fun ⟨q, c, es, e, e2, r, o⟩ => ⟨q, c, es, e, e2, ?_, fun d hd => ?_, o.2⟩
  · have hq := g.2.2.2.2 q r.lt.2 (Or.inr (Nat.le_trans hb r.lt.1))
    obtain ⟨k1, k2 | ⟨g', c', cur, e1, h3, h4, h5⟩⟩ := r
    · exact ⟨k1, Or.inl k2⟩
    · refine ⟨k1, Or.inr ⟨g', c', cur, e1, h3, ?_, h5⟩⟩
      injection e1 with e2 e3 e4
      have : g' = q := by simp at e2; omega
      subst this
      rw [hq]; exact h4
  · obtain ⟨x, e, r, n⟩ := o.1 d hd
    refine ⟨x, e, ?_, n⟩
    have hq := g.2.2.2.2 x r.lt.2 (Or.inr (Nat.le_trans hb r.lt.1))
    obtain ⟨k1, k2 | ⟨g', c', cur, e1, h3, h4, h5⟩⟩ := r
    · exact ⟨k1, Or.inl k2⟩
    · refine ⟨k1, Or.inr ⟨g', c', cur, e1, h3, ?_, h5⟩⟩
      injection e1 with e2 e3 e4
      have : g' = x := by simp at e2; omega
      subst this
      rw [hq]; exact h4

end Go.Proofs.Ythddhblmnfjciaa
