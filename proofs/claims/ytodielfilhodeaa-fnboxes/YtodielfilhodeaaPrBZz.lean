/-
  What the law FnBoxes keeps in hand.
-/
import Derived.Test.YtodielfilhodeaaPrSZz
import Derived.Test.YtodielfilhodeaaBDraw4Zz
import Derived.Test.YtodielfilhodeaaBLaw2Zz
import Derived.Test.YtodielfilhodeaaBS3Zz
namespace Go.Proofs.Ytodielfilhodeaa
open Go Go.RowKit

/-- A box and a point. -/
def PrP (w : World) (A : Nat) (a1 a2 : Option Addr) (c1 c2 : Nat) (lo hi : List Int) (g : Nat) (p : List Int) : Prop := PrR w A a1 a2 c1 c2 lo hi ∧ View w (some ⟨g, 0, none⟩) p
theorem PrP.below {w w' : World} {A : Nat} {a1 a2 : Option Addr} {c1 c2 : Nat} {lo hi : List Int} {g : Nat} {p : List Int} (h : PrP w A a1 a2 c1 c2 lo hi g p) (hb : Below w.heap.size w w') : PrP w' A a1 a2 c1 c2 lo hi g p := ⟨h.1.below hb, h.2.next hb⟩
/-- Marks, and the box around them. -/
def PrM (w : World) (A : Nat) (a1 a2 : Option Addr) (c1 c2 : Nat) (lo hi : List Int) (g : Nat) (ms : List Mk) : Prop := PrR w A a1 a2 c1 c2 lo hi ∧ MView w (some ⟨g, 0, none⟩) ms
theorem PrM.below {w w' : World} {A : Nat} {a1 a2 : Option Addr} {c1 c2 : Nat} {lo hi : List Int} {g : Nat} {ms : List Mk} (h : PrM w A a1 a2 c1 c2 lo hi g ms) (hb : Below w.heap.size w w') : PrM w' A a1 a2 c1 c2 lo hi g ms := ⟨h.1.below hb, h.2.next hb⟩

theorem view_cell {w : World} {b off i : Nat} {xs : List Int} (h : View w (some ⟨b, off, none⟩) xs) (hi : i < xs.length) : w.cell? ⟨b, off + i, none⟩ = some (.int .i64 (nth xs i)) := by
  rcases h with rfl | ⟨b', off', e, _, hs⟩
  · simp at hi
  · cases e
    exact hs i hi

/-- Some come up, and on it goes. -/
theorem calm_some {P : Program} {Q : Exit → Act → World → Prop} {ops : Array Oper} {S : World → Prop} {listed : Array Bool} {a : Act} {w : World} {n : Nat} (fuel : Nat) (calm : List Nat) (hn : n = fuel + calm.length) (hs : Region.noSelect ops = true) (hc : calmOk .any ops listed calm = true) (hS : S w)
    (h : wpCalm P ops S (fun a' => wpAnyH P .any ops (NoPanic Q) S fuel (come listed calm) a' w) calm a) : wpAnyH P .any ops (NoPanic Q) S n listed a w := by
  subst hn
  exact calm_takes (P := P) (md := .any) (Q := NoPanic Q) (ops := ops) (S := S) (w := w) hs (fun c a d v w h => h) hS calm fuel listed a hc h (fun a' h' => h')

end Go.Proofs.Ytodielfilhodeaa
