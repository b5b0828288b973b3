/-
  What the law on Shared keeps in hand, and what stays of it.
-/
import Derived.Test.YtadcpiljhhfcpaaBKeep
import Derived.Test.YtadcpiljhhfcpaaBI5
namespace Go.Proofs.Ytadcpiljhhfcpaa
open Go Go.RowKit

theorem Own.next {w w' : World} {b : Nat} {xs : List Int} (h : Own w b xs) (hb : Below w.heap.size w w') : Own w' b xs := h.below h.lt hb
theorem Own.alloc {w : World} {b : Nat} {xs : List Int} (h : Own w b xs) (o : Obj) : Own (w.alloc o) b xs := h.next (alloc_below w o)
theorem Own.drew {w : World} {b : Nat} {xs : List Int} (h : Own w b xs) : Own w.drew b xs := h
theorem Own.chg {w w' : World} {b : Nat} {xs : List Int} {v u : Value} (h : Own w b xs) (g : ChgW v u w w') (hv : ∀ a n c, v = .slice (some a) n c → b ≠ a.block) (hu : ∀ a n c, u = .slice (some a) n c → b ≠ a.block) : Own w' b xs := (g.2.2.2.2 b h.lt hv hu).trans h
theorem IOut.chg {base : Nat} {w w' : World} {x v u : Value} {xs : List Int} (h : IOut base w x xs) (g : ChgW v u w w') (hv : ∀ a n c, v = .slice (some a) n c → a.block < base) (hu : ∀ a n c, u = .slice (some a) n c → a.block < base) : IOut base w' x xs := by
  refine h.far g ?_ ?_
  · intro a n c b m d e1 e2; have h1 := h.block a n c e1; have h2 := hv b m d e2; omega
  · intro a n c b m d e1 e2; have h1 := h.block a n c e1; have h2 := hu b m d e2; omega
theorem below_drew' {w w' : World} (h : Below w.drew.heap.size w.drew w') : Below w.heap.size w w' := ⟨h.os, h.tape, h.output, h.size, h.block⟩

/-- The law's two boxes, and the given answer. -/
def ShK (w : World) (A B : Nat) (uA vA uB vB : Value) (D : Nat) (x1 x2 : Option Addr) (e1 e2 : Nat) (rl rh : List Int) (n0 : Nat) : Prop :=
  Two w A uA vA 24 ∧ Two w B uB vB 24 ∧ Two w D (.slice x1 rl.length e1) (.slice x2 rh.length e2) 27 ∧ EV n0 w x1 rl ∧ EV n0 w x2 rh
theorem ShK.below {w w' : World} {A B : Nat} {uA vA uB vB : Value} {D : Nat} {x1 x2 : Option Addr} {e1 e2 : Nat} {rl rh : List Int} {n0 : Nat} (h : ShK w A B uA vA uB vB D x1 x2 e1 e2 rl rh n0) (hb : Below w.heap.size w w') : ShK w' A B uA vA uB vB D x1 x2 e1 e2 rl rh n0 :=
  ⟨h.1.below hb, h.2.1.below hb, h.2.2.1.below hb, h.2.2.2.1.below hb, h.2.2.2.2.below hb⟩
theorem ShK.chg {w w' : World} {A B : Nat} {uA vA uB vB : Value} {D : Nat} {x1 x2 : Option Addr} {e1 e2 : Nat} {rl rh : List Int} {n0 : Nat} {v u : Value} (h : ShK w A B uA vA uB vB D x1 x2 e1 e2 rl rh n0) (g : ChgW v u w w') (hA : A < n0) (hB : B < n0) (hD : D < n0)
    (hv : ∀ a n c, v = .slice (some a) n c → n0 ≤ a.block) (hu : ∀ a n c, u = .slice (some a) n c → n0 ≤ a.block) : ShK w' A B uA vA uB vB D x1 x2 e1 e2 rl rh n0 :=
  ⟨h.1.chg g (fun a n c e => by have := hv a n c e; omega) (fun a n c e => by have := hu a n c e; omega), h.2.1.chg g (fun a n c e => by have := hv a n c e; omega) (fun a n c e => by have := hu a n c e; omega),
    h.2.2.1.chg g (fun a n c e => by have := hv a n c e; omega) (fun a n c e => by have := hu a n c e; omega), h.2.2.2.1.chg g hv hu, h.2.2.2.2.chg g hv hu⟩

/-- A box of the law's own making. -/
def ShX (w : World) (T p1 p2 : Nat) (lo hi : List Int) : Prop := Two w T (.slice (some ⟨p1, 0, none⟩) lo.length lo.length) (.slice (some ⟨p2, 0, none⟩) hi.length hi.length) 27 ∧ Own w p1 lo ∧ Own w p2 hi
theorem ShX.below {w w' : World} {T p1 p2 : Nat} {lo hi : List Int} (h : ShX w T p1 p2 lo hi) (hb : Below w.heap.size w w') : ShX w' T p1 p2 lo hi := ⟨h.1.below hb, h.2.1.next hb, h.2.2.next hb⟩
theorem ShX.chg {w w' : World} {T p1 p2 : Nat} {lo hi : List Int} {v u : Value} (h : ShX w T p1 p2 lo hi) (g : ChgW v u w w') (hv : ∀ a n c, v = .slice (some a) n c → a.block ≠ T ∧ a.block ≠ p1 ∧ a.block ≠ p2) (hu : ∀ a n c, u = .slice (some a) n c → a.block ≠ T ∧ a.block ≠ p1 ∧ a.block ≠ p2) : ShX w' T p1 p2 lo hi :=
  ⟨h.1.chg g (fun a n c e => (hv a n c e).1.symm) (fun a n c e => (hu a n c e).1.symm), h.2.1.chg g (fun a n c e => (hv a n c e).2.1.symm) (fun a n c e => (hu a n c e).2.1.symm), h.2.2.chg g (fun a n c e => (hv a n c e).2.2.symm) (fun a n c e => (hu a n c e).2.2.symm)⟩

/-- The program's answer. -/
def ShG (w : World) (T : Nat) (y1 y2 : Option Addr) (f1 f2 : Nat) (rl rh : List Int) (base : Nat) : Prop := Two w T (.slice y1 rl.length f1) (.slice y2 rh.length f2) 27 ∧ IOut base w (.slice y1 rl.length f1) rl ∧ IOut base w (.slice y2 rh.length f2) rh
theorem ShG.below {w w' : World} {T : Nat} {y1 y2 : Option Addr} {f1 f2 : Nat} {rl rh : List Int} {base : Nat} (h : ShG w T y1 y2 f1 f2 rl rh base) (hb : Below w.heap.size w w') : ShG w' T y1 y2 f1 f2 rl rh base := ⟨h.1.below hb, h.2.1.below hb, h.2.2.below hb⟩
theorem ShG.chg {w w' : World} {T : Nat} {y1 y2 : Option Addr} {f1 f2 : Nat} {rl rh : List Int} {base : Nat} {v u : Value} (h : ShG w T y1 y2 f1 f2 rl rh base) (g : ChgW v u w w') (hT : base ≤ T) (hv : ∀ a n c, v = .slice (some a) n c → a.block < base) (hu : ∀ a n c, u = .slice (some a) n c → a.block < base) : ShG w' T y1 y2 f1 f2 rl rh base :=
  ⟨h.1.chg g (fun a n c e => by have := hv a n c e; omega) (fun a n c e => by have := hu a n c e; omega), h.2.1.chg g hv hu, h.2.2.chg g hv hu⟩

/-- What a region leaves that calls Shared and keeps both answers. -/
def SawBox (w2 wx : World) (sb : Bool) (rl rh : List Int) (d b : Value) : Prop :=
  ∃ D x1 e1 x2 e2, d = .pointer (some ⟨D, 0, none⟩) ∧ b = .bool sb ∧ Two wx D (.slice x1 rl.length e1) (.slice x2 rh.length e2) 27 ∧ View wx x1 rl ∧ View wx x2 rh ∧ Below w2.heap.size w2 wx
theorem saw_alloc {w2 w6 : World} {sb : Bool} {rl rh : List Int} {x1 x2 : Option Addr} {e1 e2 base : Nat} (v1 : IOut base w6 (.slice x1 rl.length e1) rl) (v2 : IOut base w6 (.slice x2 rh.length e2) rh) (hb : Below w2.heap.size w2 w6) :
    SawBox w2 (w6.alloc (.cells #[.slice x1 rl.length e1, .slice x2 rh.length e2] 27)) sb rl rh (.pointer (some ⟨w6.heap.size, 0, none⟩)) (.bool sb) :=
  ⟨w6.heap.size, x1, e1, x2, e2, rfl, rfl, Two.new w6 _ _ _, (v1.below (alloc_below w6 _)).slice, (v2.below (alloc_below w6 _)).slice, below_alloc hb _⟩
theorem saw_set {w2 w6 : World} {sb : Bool} {rl rh : List Int} {x1 x2 : Option Addr} {D e1 e2 base : Nat} {u v : Value} (hD : Two w6 D u v 27) (v1 : IOut base w6 (.slice x1 rl.length e1) rl) (v2 : IOut base w6 (.slice x2 rh.length e2) rh) (hbD : D < base) (hDw : w2.heap.size ≤ D) (hb : Below w2.heap.size w2 w6) :
    SawBox w2 ((w6.setCell ⟨D, 0, none⟩ (.slice x1 rl.length e1)).setCell ⟨D, 1, none⟩ (.slice x2 rh.length e2)) sb rl rh (.pointer (some ⟨D, 0, none⟩)) (.bool sb) := by
  have k1 : ∀ {v : Value} {xs : List Int}, IOut base w6 v xs → IOut base ((w6.setCell ⟨D, 0, none⟩ (.slice x1 rl.length e1)).setCell ⟨D, 1, none⟩ (.slice x2 rh.length e2)) v xs := fun {v xs} h => by
    refine h.imp id fun ⟨g, c, e, hr⟩ => ⟨g, c, e, (hr.kept (grown_setCell _ D 0 _) ?_).kept (grown_setCell _ D 1 _) ?_⟩
    · have := hr.lt.1; simp; omega
    · have := hr.lt.1; simp; omega
  exact ⟨D, x1, e1, x2, e2, rfl, rfl, (hD.set0 _).set1 _, (k1 v1).slice, (k1 v2).slice, set_below (set_below hb hDw _) hDw _⟩

end Go.Proofs.Ytadcpiljhhfcpaa
