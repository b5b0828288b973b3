/-
  What the law FnShared keeps in hand.
-/
import Derived.Test.YthddhblmnfjciaaBDraw2
import Derived.Test.YthddhblmnfjciaaBLaw
import Derived.Test.YthddhblmnfjciaaPickW
import Derived.Test.YthddhblmnfjciaaBI3
import Derived.Test.YthddhblmnfjciaaLast2
namespace Go.Proofs.Ythddhblmnfjciaa
open Go Go.RowKit

theorem below_drew' {w w' : World} (h : Below w.drew.heap.size w.drew w') : Below w.heap.size w w' := ⟨h.os, h.tape, h.output, h.size, h.block⟩
/-- Two boxes in memory. -/
def PrS (w : World) (A B : Nat) (a1 a2 b1 b2 : Option Addr) (c1 c2 d1 d2 : Nat) (lo hi lo' hi' : List Int) : Prop :=
  Two w A (.slice a1 lo.length c1) (.slice a2 hi.length c2) 75 ∧ Two w B (.slice b1 lo'.length d1) (.slice b2 hi'.length d2) 75 ∧ View w a1 lo ∧ View w a2 hi ∧ View w b1 lo' ∧ View w b2 hi'
theorem PrS.below {w w' : World} {A B : Nat} {a1 a2 b1 b2 : Option Addr} {c1 c2 d1 d2 : Nat} {lo hi lo' hi' : List Int} (h : PrS w A B a1 a2 b1 b2 c1 c2 d1 d2 lo hi lo' hi') (hb : Below w.heap.size w w') : PrS w' A B a1 a2 b1 b2 c1 c2 d1 d2 lo hi lo' hi' :=
  ⟨h.1.below hb, h.2.1.below hb, h.2.2.1.next hb, h.2.2.2.1.next hb, h.2.2.2.2.1.next hb, h.2.2.2.2.2.next hb⟩
/-- One box in memory. -/
def PrR (w : World) (A : Nat) (a1 a2 : Option Addr) (c1 c2 : Nat) (lo hi : List Int) : Prop :=
  Two w A (.slice a1 lo.length c1) (.slice a2 hi.length c2) 75 ∧ View w a1 lo ∧ View w a2 hi
theorem PrR.below {w w' : World} {A : Nat} {a1 a2 : Option Addr} {c1 c2 : Nat} {lo hi : List Int} (h : PrR w A a1 a2 c1 c2 lo hi) (hb : Below w.heap.size w w') : PrR w' A a1 a2 c1 c2 lo hi := ⟨h.1.below hb, h.2.1.next hb, h.2.2.next hb⟩

end Go.Proofs.Ythddhblmnfjciaa
