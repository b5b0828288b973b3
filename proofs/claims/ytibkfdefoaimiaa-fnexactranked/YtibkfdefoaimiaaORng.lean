/-
  A plain loop whose rounds hold a loop over an iterator: each of these leaves a mark to be taken at the function's end.
-/
import Derived.Test.YtibkfdefoaimiaaOIter
namespace Go.Proofs.Ytibkfdefoaimiaa
open Go Go.RowKit Go.Shelf

theorem loop_upTo {F : Fence} {n : Nat} {P : Program} {c : Code} {Q : Exit → Act → World → Prop} (R : Nat → Act → World → Prop) (M : Nat)
    (hstep : ∀ k a w, k ≤ M → R k a w → c.wpIn F n P (Exit.then (fun a' w' => k < M ∧ R (k + 1) a' w') Q) a w) :
    ∀ k a w, k ≤ M → R k a w → (Code.loop c).wpIn F n P Q a w := by
  have key : ∀ m k a w, k + m = M + 1 → R k a w → k ≤ M → Code.roundsIn F n P c Q m a w := by
    intro m
    induction m with
    | zero => intro k a w h _ h2; omega
    | succ m ih =>
      intro k a w h hr hk
      rw [roundsIn_succ]
      refine wpIn_mono (hstep k a w hk hr) ?_
      intro e a' w' hq
      cases e with
      | normal => exact ih (k + 1) a' w' (by omega) hq.2 (by have := hq.1; omega)
      | exit id => exact hq
      | goto l => exact hq
      | ret => exact hq
      | panic ch => exact hq
      | outgrown => exact hq
  intro k a w hk hr
  exact wpIn_loop_rounds (M + 1 - k) (key _ k a w (by omega) hr hk)

/-- The marks that loops over iterators have left. -/
def marksD (Ds : List Nat) : List Deferred := Ds.map fun D => { target := .collected D, args := #[] }
def MarksIn (n₀ : Nat) (W : World) (Ds : List Nat) : Prop := Ds.Nodup ∧ ∀ D ∈ Ds, n₀ ≤ D ∧ W.heap[D]? = some (.deferred (some []))

theorem MarksIn.nil (n₀ : Nat) (W : World) : MarksIn n₀ W [] := ⟨List.nodup_nil, fun _ h => by cases h⟩
theorem MarksIn.cons {n₀ B : Nat} {W : World} {Ds : List Nat} (h : MarksIn n₀ W Ds) (hB : ∀ D ∈ Ds, D < B) {D : Nat} (hD : B ≤ D) (h0 : n₀ ≤ D) (hK : W.heap[D]? = some (.deferred (some []))) : MarksIn n₀ W (D :: Ds) :=
  ⟨List.nodup_cons.2 ⟨fun hm => by have := hB D hm; omega, h.1⟩, fun E hE => by
    rcases List.mem_cons.1 hE with rfl | hE
    · exact ⟨h0, hK⟩
    · exact h.2 E hE⟩
theorem MarksIn.lt {n₀ : Nat} {W : World} {Ds : List Nat} (h : MarksIn n₀ W Ds) : ∀ D ∈ Ds, D < W.heap.size := fun D hD => (Array.getElem?_eq_some_iff.1 (h.2 D hD).2).1
theorem MarksIn.kept {n₀ : Nat} {W W' : World} {row : Option Nat} {Ds : List Nat} (h : MarksIn n₀ W Ds) (hg : W.grownBy W' row) (hne : ∀ D ∈ Ds, some D ≠ row) : MarksIn n₀ W' Ds :=
  ⟨h.1, fun D hD => ⟨(h.2 D hD).1, (hg.block D (h.lt D hD) (hne D hD)).trans (h.2 D hD).2⟩⟩
theorem MarksIn.alloc {n₀ : Nat} {W : World} {Ds : List Nat} (h : MarksIn n₀ W Ds) (o : Obj) : MarksIn n₀ (W.alloc o) Ds := h.kept (World.grownBy_alloc W o none) (by simp)
theorem MarksIn.box {n₀ B t : Nat} {W : World} {Ds : List Nat} {v : Value} (h : MarksIn n₀ W Ds) (hb : Boxed W B t v) (u : Value) : MarksIn n₀ (W.setCell ⟨B, 0, none⟩ u) Ds :=
  h.kept (grownBy_setCell' W B u) (fun D hD e => by cases e; have := (h.2 B hD).2; rw [show W.heap[B]? = _ from hb] at this; cases this)
theorem marksIn_own {β : Type} {n₀ B : Nat} {Ds : List Nat} (hB : ∀ D ∈ Ds, D < B) : OwnFrom B (fun (_ : β) W => MarksIn n₀ W Ds) :=
  fun _ _ _ _ hs hg hr => hs.kept hg (fun D hD e => by have := (hr D e.symm).1; have := hB D hD; omega)

theorem leaves_marks {F : Fence} {n : Nat} {P : Program} {fn : Func} {tmps : Array Value} {R : Ending → World → Prop} {n₀ : Nat} : ∀ (Ds : List Nat) (W : World), n₀ ≤ W.heap.size → MarksIn n₀ W Ds →
    (∀ W', Below n₀ W W' → ∃ v, (results fn tmps).run P W' = .ok v W' ∧ R (.returned v) W') → LeavesInM F n P fn tmps R (marksD Ds) .returning W
  | [], W, _, _, h => h W (Below.refl _ _)
  | D :: Ds, W, h0, hm, h => by
    have hK := (hm.2 D (List.mem_cons_self ..)).2
    have hD := (hm.2 D (List.mem_cons_self ..)).1
    have hb : Below n₀ W (W.putObj D (.deferred none)) := (Below.refl n₀ W).grown (grownBy_putObj' W D _) h0 (fun k e => by cases e; exact hD)
    refine ⟨by simp, .inl ⟨D, _, rfl, run_takeDeferred hK, ?_⟩⟩
    refine leaves_marks Ds _ (Nat.le_trans h0 hb.size) ?_ (fun W' hW' => h W' (hb.trans hW'))
    have hnd := List.nodup_cons.1 hm.1
    refine MarksIn.kept ⟨hnd.2, fun E hE => hm.2 E (List.mem_cons_of_mem _ hE)⟩ (grownBy_putObj' W D _) ?_
    intro E hE e
    cases e
    exact hnd.1 hE
end Go.Proofs.Ytibkfdefoaimiaa
