/-
  Whether a cell is let go: the closure of leaveAbout.
-/
import Derived.Test.YtodielfilhodeaaGreatNBoxZz
import Derived.Test.YtodielfilhodeaaGreatBI2Zz
import Derived.Deep.RegionHeld3
namespace Go.Proofs.YtodielfilhodeaaGreat
open Go Go.RowKit

theorem ndrew_below {w w' : World} (h : Below w.drew.heap.size w.drew w') : Below w.heap.size w w' := ⟨h.os, h.tape, h.output, h.size, h.block⟩
def goneB (s : Int) (q : List Int) (most : Int) (key : List Int) : Bool := decide (most < toBoxV (boxLow key s, boxHigh key s) q)

set_option maxRecDepth 100000 in
set_option maxHeartbeats 2000000 in
theorem iGone (key : List Int) (v : Value) (Q G M : Nat) (qa : Option Addr) (qc : Nat) (q : List Int) (s most : Int) (w : World)
    (hQ : w.cell? ⟨Q, 0, none⟩ = some (.slice qa q.length qc)) (hG : w.cell? ⟨G, 0, none⟩ = some (.int .i64 s)) (hM : w.cell? ⟨M, 0, none⟩ = some (.int .i64 most)) (lQ : Q < w.heap.size) (lG : G < w.heap.size) (lM : M < w.heap.size)
    (hv : View w qa q) (hl : key.length = q.length) (h4 : key.length ≤ 4) (hs1 : 1 ≤ s) (hs2 : s ≤ 1000) (hbd : ∀ k, -1000 ≤ nth key k ∧ nth key k ≤ 1000) :
    Calls Tryz.prog 129 #[keyV key, v, .pointer (some ⟨Q, 0, none⟩), .pointer (some ⟨G, 0, none⟩), .pointer (some ⟨M, 0, none⟩)] w fun e w' => e = .returned (.bool (goneB s q most key)) ∧ Below w.heap.size w w' := by
  have L0 : Below w.heap.size w (w.alloc (.cells #[.int .i64 (nth key 0), .int .i64 (nth key 1), .int .i64 (nth key 2), .int .i64 (nth key 3)] 106)) := alloc_below w _
  have HB := hidP (iBox key s (w.alloc (.cells #[.int .i64 (nth key 0), .int .i64 (nth key 1), .int .i64 (nth key 2), .int .i64 (nth key 3)] 106)).drew h4 hs1 hs2 hbd)
  rw [hl] at HB
  have HT : Hid (∀ g1 g2 w5, Own w5 g1 (boxLow key s) → Own w5 g2 (boxHigh key s) → Below w.heap.size w w5 → Calls Tryz.prog 126 #[.agg #[.slice (some ⟨g1, 0, none⟩) q.length q.length, .slice (some ⟨g2, 0, none⟩) q.length q.length], .slice qa q.length qc] w5 fun e w' => e = .returned (.int .i64 (toBoxV (boxLow key s, boxHigh key s) q)) ∧ Below w5.heap.size w5 w') := fun g1 g2 w5 o1 o2 L5 => by
    have e1 : (boxLow key s).length = q.length := by rw [boxLow, tabL_length, hl]
    have e2 : (boxHigh key s).length = q.length := by rw [boxHigh, tabL_length, hl]
    have h := iToBox (some ⟨g1, 0, none⟩) (some ⟨g2, 0, none⟩) qa q.length q.length qc (boxLow key s) (boxHigh key s) q w5 o1.view o2.view (hv.next L5) (by omega) (by omega) (by omega)
    rwa [e1, e2] at h
  have HK : Hid (∀ X, Below w.heap.size w X → X.cell? ⟨Q, 0, none⟩ = some (.slice qa q.length qc) ∧ X.cell? ⟨G, 0, none⟩ = some (.int .i64 s) ∧ X.cell? ⟨M, 0, none⟩ = some (.int .i64 most)) := fun X hX =>
    ⟨(hX.cell (p := ⟨Q, 0, none⟩) lQ).trans hQ, (hX.cell (p := ⟨G, 0, none⟩) lG).trans hG, (hX.cell (p := ⟨M, 0, none⟩) lM).trans hM⟩
  obtain ⟨W, hW⟩ : ∃ W, W = w.alloc (.cells #[.int .i64 (nth key 0), .int .i64 (nth key 1), .int .i64 (nth key 2), .int .i64 (nth key 3)] 106) := ⟨_, rfl⟩
  have F : Four W w.heap.size (.int .i64 (nth key 0)) (.int .i64 (nth key 1)) (.int .i64 (nth key 2)) (.int .i64 (nth key 3)) 106 := by rw [hW]; exact Four.new w _ _ _ _ _
  rw [← hW] at L0 HB
  have HS : Hid (∀ X, Below W.heap.size W X → (X.cell? ⟨Q, 0, none⟩ = some (.slice qa q.length qc) ∧ X.cell? ⟨G, 0, none⟩ = some (.int .i64 s) ∧ X.cell? ⟨M, 0, none⟩ = some (.int .i64 most)) ∧ X.cell? ⟨w.heap.size, 0, none⟩ = some (.int .i64 (nth key 0)) ∧ X.cell? ⟨w.heap.size, 1, none⟩ = some (.int .i64 (nth key 1)) ∧ X.cell? ⟨w.heap.size, 2, none⟩ = some (.int .i64 (nth key 2)) ∧ X.cell? ⟨w.heap.size, 3, none⟩ = some (.int .i64 (nth key 3))) := fun X hX => by
    obtain ⟨f0, f1, f2, f3⟩ := F.cells
    exact ⟨HK.out X (chain L0 hX), (hX.cell (p := ⟨w.heap.size, 0, none⟩) F.lt).trans f0, (hX.cell (p := ⟨w.heap.size, 1, none⟩) F.lt).trans f1, (hX.cell (p := ⟨w.heap.size, 2, none⟩) F.lt).trans f2, (hX.cell (p := ⟨w.heap.size, 3, none⟩) F.lt).trans f3⟩
  obtain ⟨⟨k0, k1, k2⟩, f0, f1, f2, f3⟩ := HS.out W (Below.refl _ _)
  have HL0 := hidP L0
  unfold goneB
  generalize toBoxV (boxLow key s, boxHigh key s) q = T at *
  have hqn : q.length ≤ 4 := by omega
  clear hQ hG hM hv hbd L0 hl h4 F HK
  unfold keyV
  unfold keyV at HB
  generalize nth key 0 = x0 at *
  generalize nth key 1 = x1 at *
  generalize nth key 2 = x2 at *
  generalize nth key 3 = x3 at *
  go_enter Tryz.func129, Tryz.ntmps129
  go_wp2_with fail
  rw [← hW]
  clear hW
  go_region_held3 (fun X => (X.cell? ⟨Q, 0, none⟩ = some (.slice qa q.length qc) ∧ X.cell? ⟨G, 0, none⟩ = some (.int .i64 s) ∧ X.cell? ⟨M, 0, none⟩ = some (.int .i64 most)) ∧ X.cell? ⟨w.heap.size, 0, none⟩ = some (.int .i64 x0) ∧ X.cell? ⟨w.heap.size, 1, none⟩ = some (.int .i64 x1) ∧ X.cell? ⟨w.heap.size, 2, none⟩ = some (.int .i64 x2) ∧ X.cell? ⟨w.heap.size, 3, none⟩ = some (.int .i64 x3))
    (first
      | go_keep
      | exact HS.out _ (ndrew_below L5)
      | exact HS.out _ (chain (ndrew_below L5) L6))
    (first
      | (go_at_call 130; refine HB.out.mono ?_; rintro e w5 ⟨g1, g2, rfl, hg1, hg2, o1, o2, L5⟩)
      | (go_at_call 126; refine (HT.out g1 g2 _ o1 o2 (chain HL0.out (ndrew_below L5))).mono ?_; rintro e w6 ⟨rfl, L6⟩))
  have L7 := chain HL0.out (chain (ndrew_below L5) L6)
  have HL7 := hidP L7
  clear L5 L6 L7 o1 o2
  go_wp2_with fail
  go_ret
  exact ⟨rfl, HL7.out⟩

end Go.Proofs.YtodielfilhodeaaGreat
