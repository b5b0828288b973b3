import Derived.Test.YtilkaeclgmcolaaGreatBSpecZz
import Derived.Test.YtilkaeclgmcolaaGreatMSizeZz
import Derived.Test.YtilkaeclgmcolaaGreatMCopyZz
namespace Go.Proofs.YtilkaeclgmcolaaGreat
open Go Go.RowKit
def Two(w:World)(p:Nat)(u v:Value)(t:TypeId):Prop:=w.heap[p]? =some (.cells #[u,v] t (0,0))
theorem Two.lt{w:World}{p:Nat}{u v:Value}{t:TypeId}(h:Two w p u v t):p<w.heap.size:=by
 rcases Nat.lt_or_ge p w.heap.size with h1 | h1
 · exact h1
 · unfold Two at h;rw [Array.getElem?_eq_none h1] at h;cases h
theorem Two.c0{w:World}{p:Nat}{u v:Value}{t:TypeId}(h:Two w p u v t):w.cell? ⟨p,0,none⟩=some u:=by unfold Two at h;simp [World.cell?,h]
theorem Two.c1{w:World}{p:Nat}{u v:Value}{t:TypeId}(h:Two w p u v t):w.cell? ⟨p,1,none⟩=some v:=by unfold Two at h;simp [World.cell?,h]
theorem Two.frozen{w:World}{p:Nat}{u v:Value}{t:TypeId}(h:Two w p u v t)(j:Nat):w.frozen? ⟨p,j,none⟩=false:=by unfold Two at h;simp [World.frozen?,h]
theorem Two.below{w w':World}{p:Nat}{u v:Value}{t:TypeId}(h:Two w p u v t)(hb:Below w.heap.size w w'):Two w' p u v t:=(hb.block p h.lt).trans h
theorem Two.set0{w:World}{p:Nat}{u v:Value}{t:TypeId}(h:Two w p u v t)(x:Value):Two (w.setCell ⟨p,0,none⟩ x) p x v t:=by
 unfold Two World.setCell at *
 rw [Array.getElem?_modify,if_pos rfl,h];rfl
theorem Two.set1{w:World}{p:Nat}{u v:Value}{t:TypeId}(h:Two w p u v t)(x:Value):Two (w.setCell ⟨p,1,none⟩ x) p u x t:=by
 unfold Two World.setCell at *
 rw [Array.getElem?_modify,if_pos rfl,h];rfl
theorem Two.far{w:World}{p q i:Nat}{u v:Value}{t:TypeId}(h:Two w p u v t)(hq:q≠p)(x:Value):Two (w.setCell ⟨q,i,none⟩ x) p u v t:=by
 unfold Two World.setCell at *
 rw [Array.getElem?_modify,if_neg hq,h]
theorem Two.new(w:World)(u v:Value)(t:TypeId):Two (w.alloc (.cells #[u,v] t)) w.heap.size u v t:=heap_alloc_new w _
end Go.Proofs.YtilkaeclgmcolaaGreat
