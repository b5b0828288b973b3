/-
  The given Shared.
-/
import Derived.Test.YtodielfilhodeaaBI5Zz
import Derived.Test.YtodielfilhodeaaBS3Zz
namespace Go.Proofs.Ytodielfilhodeaa
open Go Go.RowKit

theorem IOut.owns {base : Nat} {w : World} {v : Value} {xs : List Int} (h : IOut base w v xs) : w.ownsRow base 2 1 v xs.length (xs.map (Value.int .i64)) := by
  rcases h with ⟨rfl, rfl⟩ | ⟨g, c, rfl, hr⟩
  · exact ⟨by simp, Or.inl ⟨rfl, rfl⟩⟩
  · exact hr
theorem IOut.own {base : Nat} {w : World} {v : Value} {xs : List Int} (h : IOut base w v xs) : ∀ k, v.ownBlock = some k → base ≤ k ∧ k < w.heap.size := fun k hk => World.ownsRow.lt h.owns k hk
theorem Two.grown {w w' : World} {p : Nat} {u v : Value} {t : TypeId} {r : Option Nat} (h : Two w p u v t) (hg : w.grownBy w' r) (hr : some p ≠ r) : Two w' p u v t := (hg.block p h.lt hr).trans h
theorem IOut.kept {base : Nat} {w w' : World} {v : Value} {xs : List Int} {r : Option Nat} (h : IOut base w v xs) (hg : w.grownBy w' r) (hr : ∀ k, v.ownBlock = some k → some k ≠ r) : IOut base w' v xs :=
  h.imp id fun ⟨g, c, e, hr'⟩ => ⟨g, c, e, hr'.kept hg (hr g (by rw [e]; rfl))⟩
theorem Apart.own {v u : Value} (h : Apart v u) : ∀ k, u.ownBlock = some k → some k ≠ v.ownBlock := fun k hk e => by
  cases v with
  | slice a n c =>
    cases a with
    | none => cases e
    | some a =>
      cases u with
      | slice b m d =>
        cases b with
        | none => cases hk
        | some b =>
          simp only [Value.ownBlock, Option.some.injEq] at hk e
          exact h a n c b m d rfl rfl (by omega)
      | _ => cases hk
  | _ => cases e

/-- A box under way: its block D, and in it two rows that are appended to. -/
def Under (D : Nat) (w : World) (v1 v2 : Value) (L1 L2 : List Int) : Prop := Two w D v1 v2 26 ∧ IOut (D + 1) w v1 L1 ∧ IOut (D + 1) w v2 L2 ∧ Apart v1 v2
theorem apart_new {v u : Value} {g n c : Nat} {base base' H : Nat} {w : World} {xs : List Int} (ha : Apart v u) (hu : IOut base w u xs) (hH : w.heap.size ≤ H) (hat : v.ownBlock = some g ∨ g = H) (_hb : base' ≤ g) : Apart (.slice (some ⟨g, 0, none⟩) n c) u := by
  intro a n' c' b m d e1 e2
  injection e1 with e3 _ _
  injection e3 with e3
  rw [← e3]
  have hk : u.ownBlock = some b.block := by rw [e2]; rfl
  have h1 := hu.own b.block hk
  have h2 := ha.own b.block hk
  intro e4
  rcases hat with h | h
  · rw [h] at h2; exact h2 (by rw [← e4])
  · have e5 : g = b.block := e4
    omega
theorem Under.low {D : Nat} {w W w1 : World} {v1 v2 : Value} {L1 L2 : List Int} {g c : Nat} {x : Int} (h : Under D w v1 v2 L1 L2) (hW : Below w.heap.size w W)
    (hown : w1.ownsRow (D + 1) 2 1 (.slice (some ⟨g, 0, none⟩) (L1.length + 1) c) (L1.length + 1) (L1.map (Value.int .i64) ++ [.int .i64 x])) (hg : W.grownBy w1 v1.ownBlock) (hat : v1.ownBlock = some g ∨ g = W.heap.size) :
    Under D (w1.setCell ⟨D, 0, none⟩ (.slice (some ⟨g, 0, none⟩) (L1.length + 1) c)) (.slice (some ⟨g, 0, none⟩) (L1.length + 1) c) v2 (L1 ++ [x]) L2 := by
  obtain ⟨t, o1, o2, ap⟩ := h
  have hb := World.ownsRow.lt hown g rfl
  have hD : some D ≠ v1.ownBlock := fun e => by have := o1.own D e.symm; omega
  have t1 := (t.below hW).grown hg hD
  have p2 := (o2.below hW).kept hg (fun k hk => ap.own k hk)
  refine ⟨t1.set0 _, Or.inr ⟨g, c, by simp, ?_⟩, p2.kept (grown_setCell _ D 0 _) (fun k hk => by have := o2.own k hk; simp; omega), apart_new ap (o2.below hW) (Nat.le_refl _) hat hb.1⟩
  exact (IRow.of hown (by simp) (by simp)).kept (grown_setCell _ D 0 _) (by simp; omega)
theorem Under.high {D : Nat} {w W w1 : World} {v1 v2 : Value} {L1 L2 : List Int} {g c : Nat} {x : Int} (h : Under D w v1 v2 L1 L2) (hW : Below w.heap.size w W)
    (hown : w1.ownsRow (D + 1) 2 1 (.slice (some ⟨g, 0, none⟩) (L2.length + 1) c) (L2.length + 1) (L2.map (Value.int .i64) ++ [.int .i64 x])) (hg : W.grownBy w1 v2.ownBlock) (hat : v2.ownBlock = some g ∨ g = W.heap.size) :
    Under D (w1.setCell ⟨D, 1, none⟩ (.slice (some ⟨g, 0, none⟩) (L2.length + 1) c)) v1 (.slice (some ⟨g, 0, none⟩) (L2.length + 1) c) L1 (L2 ++ [x]) := by
  obtain ⟨t, o1, o2, ap⟩ := h
  have hb := World.ownsRow.lt hown g rfl
  have hD : some D ≠ v2.ownBlock := fun e => by have := o2.own D e.symm; omega
  have t1 := (t.below hW).grown hg hD
  have p1 := (o1.below hW).kept hg (fun k hk => ap.symm.own k hk)
  refine ⟨t1.set1 _, p1.kept (grown_setCell _ D 1 _) (fun k hk => by have := o1.own k hk; simp; omega), Or.inr ⟨g, c, by simp, ?_⟩, (apart_new ap.symm (o1.below hW) (Nat.le_refl _) hat hb.1).symm⟩
  exact (IRow.of hown (by simp) (by simp)).kept (grown_setCell _ D 1 _) (by simp; omega)

end Go.Proofs.Ytodielfilhodeaa
