/-
  A region that draws its order and writes nothing that it reads: what yields its value is taken first, guarded or not (no program is named here).
-/
import Derived.Test.YtbmljcpeonopmaaLast
namespace Go.Proofs.Ytbmljcpeonopmaa
open Go

theorem wp_region_takes {P : Program} {Q : Exit → Act → World → Prop} {ops : Array Oper} {id fuel : Nat} {S : World → Prop} {a : Act} {w : World} (calm : List Nat) (hm : P.follows .mixedOrders = true) (hf : ops.size = fuel + calm.length) (hs : Region.noSelect ops = true)
    (hc : calmOk .any ops (Array.replicate ops.size false) calm = true) (hS : S w.drew)
    (h : S w.drew → wpCalm P ops S (fun a' => wpAnyH P .any ops (NoPanic Q) S fuel (come (Array.replicate ops.size false) calm) a' w.drew) calm a) : (Code.region id ops true).wp P Q a w := by
  refine wp_region_noPanic ?_
  refine wp_region_held_drew (S := S) hm hS (fun hS' => ?_)
  have h2 := calm_takes (P := P) (md := .any) (Q := NoPanic Q) (ops := ops) (S := S) (w := w.drew) hs (fun c a d v w h => h) hS' calm fuel (Array.replicate ops.size false) a hc (h hS') (fun a' h' => h')
  rw [← hf] at h2
  exact h2
/-- Behind a call: the rest is taken, and the region is done. -/
theorem calm_rest {P : Program} {Q : Exit → Act → World → Prop} {ops : Array Oper} {S : World → Prop} {listed : Array Bool} {a : Act} {w : World} {n : Nat} (calm : List Nat) (hn : calm.length = n) (hs : Region.noSelect ops = true) (hc : calmOk .any ops listed calm = true) (hd : Region.ready .any ops (come listed calm) = []) (hS : S w)
    (h : wpCalm P ops S (fun a' => NoPanic Q .normal a' w) calm a) : wpAnyH P .any ops (NoPanic Q) S n listed a w := by
  subst hn
  have h2 := calm_takes (P := P) (md := .any) (Q := NoPanic Q) (ops := ops) (S := S) (w := w) hs (fun c a d v w h => h) hS calm 0 listed a hc h (fun a' h' => wpAnyH_done hd h' 0)
  rw [Nat.zero_add] at h2
  exact h2

end Go.Proofs.Ytbmljcpeonopmaa
