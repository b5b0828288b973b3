/-
  The given l14Walk and Walk.
-/
import Derived.Test.YtbmljcpeonopmaaFeSpecZz
import Derived.Test.YtbmljcpeonopmaaWithZz
import Derived.Test.YtbmljcpeonopmaaLastZz
namespace Go.Proofs.Ytbmljcpeonopmaa
open Go Go.RowKit

theorem Row.one (w : World) (x : Int) (base : Nat) (hb : base ≤ w.heap.size) : Row base (w.alloc (.cells #[.int .i64 x] 2)) w.heap.size 1 [x] := World.ownsRow_lit w #[.int .i64 x] 1 hb (by unfold maxLen; omega) rfl
theorem Row.same {base : Nat} {w w' : World} {g c : Nat} {xs : List Int} (h : Row base w g c xs) (e : w'.heap[g]? = w.heap[g]?) : Row base w' g c xs := by
  refine ⟨h.1, ?_⟩
  rcases h.2 with hn | ⟨g', cap, cur, e1, hb, hgg, rest⟩
  · exact .inl hn
  · refine .inr ⟨g', cap, cur, e1, hb, ?_, rest⟩
    injection e1 with e2 e3 e4
    injection e2 with e5
    injection e5 with e6
    rw [← e6, e, e6]
    exact hgg
theorem Row.next {base B : Nat} {w w' : World} {g c : Nat} {xs : List Int} (h : Row base w g c xs) (hw : Below B w w') (hB : g < B) : Row base w' g c xs := h.same (hw.block g hB)
theorem Row.mono14 {base base' : Nat} {w : World} {g c : Nat} {xs : List Int} (h : Row base w g c xs) (hb : base' ≤ base) : Row base' w g c xs := ⟨h.1, h.2.imp id fun ⟨g', cap, cur, e, hg, r⟩ => ⟨g', cap, cur, e, Nat.le_trans hb hg, r⟩⟩
theorem row_len {base : Nat} {w : World} {g c n : Nat} {xs : List Int} (h : Row base w g c xs) (hn : xs.length = n) : w.ownsRow base 2 1 (.slice (some ⟨g, 0, none⟩) n c) n (xs.map (Value.int .i64)) := by
  subst hn; exact h
/-- Behind a call: some are taken, and the region goes on. -/
theorem calm_more14 {P : Program} {Q : Exit → Act → World → Prop} {ops : Array Oper} {S : World → Prop} {listed : Array Bool} {a : Act} {w : World} {n : Nat} (fuel : Nat) (calm : List Nat) (hn : n = fuel + calm.length) (hs : Region.noSelect ops = true) (hc : calmOk .any ops listed calm = true) (hS : S w)
    (h : wpCalm P ops S (fun a' => wpAnyH P .any ops (NoPanic Q) S fuel (come listed calm) a' w) calm a) : wpAnyH P .any ops (NoPanic Q) S n listed a w := by
  subst hn
  exact calm_takes (P := P) (md := .any) (Q := NoPanic Q) (ops := ops) (S := S) (w := w) hs (fun c a d v w h => h) hS calm fuel listed a hc h (fun a' h' => h')
/-- Two operations may come up, in either order. -/
theorem calm_two14 {P : Program} {md : Region.Mode} {Q : Exit → Act → World → Prop} {ops : Array Oper} {S : World → Prop} {fuel : Nat} {listed : Array Bool} {a : Act} {w : World} {o o2 : Oper} (i j : Nat) (hr : Region.ready md ops listed = [i, j]) (ho : ops[i]? = some o) (ho2 : ops[j]? = some o2)
    (h : ∀ K : Act → World → Prop, Shut (∀ a w, S w → (S w → wpAnyH P md ops Q S fuel (listed.setIfInBounds i true) a w) → K a w) → if Region.wanted o (yielded ops a.tmps) = true then Oper.wp P o a w K Q else K (a.put o.dst undef) w)
    (h2 : ∀ K : Act → World → Prop, Shut (∀ a w, S w → (S w → wpAnyH P md ops Q S fuel (listed.setIfInBounds j true) a w) → K a w) → if Region.wanted o2 (yielded ops a.tmps) = true then Oper.wp P o2 a w K Q else K (a.put o2.dst undef) w) : wpAnyH P md ops Q S (fuel + 1) listed a w :=
  wpAnyH_ready hr (by simp) (AllReadyH.cons ho h (AllReadyH.cons ho2 h2 AllReadyH.nil))

end Go.Proofs.Ytbmljcpeonopmaa
