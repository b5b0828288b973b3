/-
  The program's leaveAbout: the cells that are too far are let go.
-/
import Derived.Test.YtodielfilhodeaaGreatNDelZz
import Derived.Test.YtodielfilhodeaaGreatBI4Zz
namespace Go.Proofs.YtodielfilhodeaaGreat
open Go Go.RowKit
open Go.ChangeMaps (setBlock)

theorem View.notB {w X : World} {qa : Option Addr} {q : List Int} {B : Nat} (hv : View w qa q) (hg : w.grownBy X (some B)) (hne : ∀ a, qa = some a → a.block ≠ B) : View X qa q := by
  rcases hv with h | ⟨b, off, rfl, hb, hs⟩
  · exact Or.inl h
  · refine Or.inr ⟨b, off, rfl, Nat.lt_of_lt_of_le hb hg.size, fun i hi => ?_⟩
    have h := hs i hi
    have hk := hg.block b hb (by have := hne _ rfl; simp only at this; simp; exact this)
    simp only [World.cell?, hk] at h ⊢
    exact h
theorem cell_notB {w X : World} {B p j : Nat} {v : Value} (hg : w.grownBy X (some B)) (hp : p < w.heap.size) (hne : p ≠ B) (h : w.cell? ⟨p, j, none⟩ = some v) : X.cell? ⟨p, j, none⟩ = some v := by
  have hk := hg.block p hp (by simp; exact hne)
  simp only [World.cell?, hk] at h ⊢
  exact h

/-- What is left of the cells. -/
def Left0 (B : Nat) (gs : List Gp) (most T : Int) (gone : List Int → Bool) (w w' : World) : Prop := (∃ es, w'.heap[B]? = some (.map es gs.length) ∧ Some0 (gs.map gpV) es ∧ (most < T → es = #[]) ∧ (¬ most < T → ∀ x ∈ (mkE (gs.map gpV)).toList, x ∈ es.toList ↔ ∀ h : x.born < gs.length, gone gs[x.born].1 = false)) ∧ w.grownBy w' (some B)
set_option maxRecDepth 100000 in
set_option maxHeartbeats 2000000 in
theorem iLeave (B : Nat) (gs : List Gp) (s : Int) (ao : Option Addr) (cap : Nat) (ms : List Mk) (qa : Option Addr) (qc : Nat) (q : List Int) (most : Int) (w : World) (hm : MapIs w B (gs.map gpV)) (hk : KeysOk (gs.map gpV)) (hn : ((gs.map gpV).map (·.1)).Nodup)
    (hmv : MView w ao ms) (hms : MSmall ms) (hqv : View w qa q) (hqn : q.length ≤ 1048576) (hqB : ∀ a, qa = some a → a.block ≠ B) (hs1 : 1 ≤ s) (hs2 : s ≤ 1000)
    (hkey : ∀ x ∈ gs, x.1.length = q.length ∧ x.1.length ≤ 4 ∧ ∀ k, -1000 ≤ nth x.1 k ∧ nth x.1 k ≤ 1000) :
    Calls Tryz.prog 92 #[.map (some B), .agg #[.int .i64 s, .slice ao ms.length cap], .slice qa q.length qc, .int .i64 most] w fun e w' => e = .returned (.tuple #[]) ∧ Left0 B gs most (toBoxV (aroundV ms) q) (goneB s q most) w w' := by
  have hBl := hm.lt
  obtain ⟨W, hW⟩ : ∃ W, W = ((w.alloc (.cells #[.int .i64 s, .slice ao ms.length cap] 46)).alloc (.cells #[.slice qa q.length qc] 28)).alloc (.cells #[.int .i64 most] 2) := ⟨_, rfl⟩
  have L0 : Below w.heap.size w W := by rw [hW]; exact (((Below.refl _ _).alloc (Nat.le_refl _) _).alloc (by simp) _).alloc (by simp; omega) _
  have hz : W.heap.size = w.heap.size + 3 := by rw [hW]; simp
  have c0 : W.cell? ⟨w.heap.size, 0, none⟩ = some (.int .i64 s) := by rw [hW]; go_simp
  have c1 : W.cell? ⟨w.heap.size, 1, none⟩ = some (.slice ao ms.length cap) := by rw [hW]; go_simp
  have c2 : W.cell? ⟨w.heap.size + 1, 0, none⟩ = some (.slice qa q.length qc) := by rw [hW]; go_simp
  have c3 : W.cell? ⟨w.heap.size + 1 + 1, 0, none⟩ = some (.int .i64 most) := by rw [hW]; go_simp
  have HK : Hid (∀ X, Below W.heap.size W X → X.cell? ⟨w.heap.size, 0, none⟩ = some (.int .i64 s) ∧ X.cell? ⟨w.heap.size, 1, none⟩ = some (.slice ao ms.length cap) ∧ X.cell? ⟨w.heap.size + 1, 0, none⟩ = some (.slice qa q.length qc) ∧ X.cell? ⟨w.heap.size + 1 + 1, 0, none⟩ = some (.int .i64 most)) := fun X hX =>
    ⟨(hX.cell (p := ⟨w.heap.size, 0, none⟩) (by show w.heap.size < _; omega)).trans c0, (hX.cell (p := ⟨w.heap.size, 1, none⟩) (by show w.heap.size < _; omega)).trans c1, (hX.cell (p := ⟨w.heap.size + 1, 0, none⟩) (by show w.heap.size + 1 < _; omega)).trans c2, (hX.cell (p := ⟨w.heap.size + 1 + 1, 0, none⟩) (by show w.heap.size + 1 + 1 < _; omega)).trans c3⟩
  have HA := hidP (iAround ao cap ms W.drew ((hmv.next L0).next ((Below.refl _ _).drew)) hms)
  have HT : Hid (∀ a1 a2 d1 d2 X, View X a1 (aroundV ms).1 → View X a2 (aroundV ms).2 → Below W.heap.size W X → Calls Tryz.prog 126 #[.agg #[.slice a1 (aroundV ms).1.length d1, .slice a2 (aroundV ms).2.length d2], .slice qa q.length qc] X fun e w' => e = .returned (.int .i64 (toBoxV (aroundV ms) q)) ∧ Below X.heap.size X w') := fun a1 a2 d1 d2 X v1 v2 hX => by
    have hsh := around_short ms
    exact iToBox a1 a2 qa d1 d2 qc (aroundV ms).1 (aroundV ms).2 q X v1 v2 (hqv.next (chain L0 hX)) (by omega) (by omega) hqn
  have HM : Hid (∀ X, Below W.heap.size W X → MapIs X B (gs.map gpV)) := fun X hX => ((chain L0 hX).block B hBl).trans hm
  have HD : Hid (∀ X, Below W.heap.size W X → Calls Tryz.prog 128 #[.map (some B), .func (Fn.func 129) #[] #[.pointer (some ⟨w.heap.size + 1, 0, none⟩), .pointer (some ⟨w.heap.size, 0, none⟩), .pointer (some ⟨w.heap.size + 1 + 1, 0, none⟩)]] X fun e w' => e = .returned (.tuple #[]) ∧ (∃ es, w'.heap[B]? = some (.map es gs.length) ∧ Some0 (gs.map gpV) es ∧ ∀ x ∈ (mkE (gs.map gpV)).toList, x ∈ es.toList ↔ ∀ h : x.born < gs.length, goneB s q most gs[x.born].1 = false) ∧ X.grownBy w' (some B)) := fun X hX => by
    refine iDelete B gs (goneB s q most) #[.pointer (some ⟨w.heap.size + 1, 0, none⟩), .pointer (some ⟨w.heap.size, 0, none⟩), .pointer (some ⟨w.heap.size + 1 + 1, 0, none⟩)] X (HM.out X hX) hk hn (fun Y hY x hx v => ?_)
    obtain ⟨k0, k1, k2, k3⟩ := HK.out X hX
    have hXz := hX.size
    have hYz := hY.size
    obtain ⟨e1, e2, e3⟩ := hkey x hx
    exact iGone x.1 v (w.heap.size + 1) w.heap.size (w.heap.size + 1 + 1) qa qc q s most Y (cell_notB hY (by omega) (by omega) k2) (cell_notB hY (by omega) (by omega) k0) (cell_notB hY (by omega) (by omega) k3) (by omega) (by omega) (by omega) ((hqv.next (chain L0 hX)).notB hY hqB) e1 e2 hs1 hs2 e3
  have HL0 := hidP (And.intro L0 hz)
  have HMC : Hid (∀ (X : World) (es : Array MapEntry), X.heap[B]? = some (.map es gs.length) → (Builtin.clear_ #[102] 0 #[.map (some B)]).run Tryz.prog X = .ok (.tuple #[]) (setBlock X B (.map #[] gs.length))) := fun X es h => by
    simp [Builtin.clear_, run_underlying Tryz.underlying102, MapKept.run_getObj_map h, MapKept.run_setObj_map _ h, Result.andThen, setBlock]
  have hgl : (gs.map gpV).length = gs.length := by simp
  have HGL := hidP hgl
  clear hm hk hn hmv hqv hkey L0 hz hgl
  generalize toBoxV (aroundV ms) q = T at *
  generalize (aroundV ms).1 = rl at *
  generalize (aroundV ms).2 = rh at *
  go_enter Tryz.func92, Tryz.ntmps92
  go_wp2_with fail
  rw [← hW]
  clear hW
  go_region_held3 (fun X => X.cell? ⟨w.heap.size, 0, none⟩ = some (.int .i64 s) ∧ X.cell? ⟨w.heap.size, 1, none⟩ = some (.slice ao ms.length cap) ∧ X.cell? ⟨w.heap.size + 1, 0, none⟩ = some (.slice qa q.length qc) ∧ X.cell? ⟨w.heap.size + 1 + 1, 0, none⟩ = some (.int .i64 most))
    (first
      | go_keep
      | exact HK.out _ (ndrew_below L5)
      | exact HK.out _ (chain (ndrew_below L5) L6))
    (first
      | (go_at_call 127; refine HA.out.mono ?_; rintro e w5 ⟨a1, d1, a2, d2, rfl, y1, y2, _, L5⟩)
      | (go_at_call 126; refine (HT.out a1 a2 d1 d2 _ y1.slice y2.slice (ndrew_below L5)).mono ?_; rintro e w6 ⟨rfl, L6⟩))
  have L56 := chain (ndrew_below L5) L6
  have HL6 := hidP L56
  clear L5 L6 L56 y1 y2 c0 c1 c2 c3 HA HT
  by_cases hfar : most < T
  · have hmB := HM.out w6 HL6.out
    unfold MapIs at hmB
    rw [HGL.out] at hmB
    have hclr := HMC.out w6 _ hmB
    have hdec : decide (most < T) = true := by simp [hfar]
    have HE : Hid (∀ W7, W7 = setBlock w6 B (.map #[] gs.length) → Left0 B gs most T (goneB s q most) w W7) := fun W7 e7 => by
      have g7 := nsetBlock_grown w6 B (.map #[] gs.length)
      rw [← e7] at g7
      have hB6 : B < w6.heap.size := (Array.getElem?_eq_some_iff.1 hmB).1
      have L06 := chain HL0.out.1 HL6.out
      refine ⟨⟨#[], by rw [e7]; simp [setBlock, hB6], ⟨by simp⟩, fun _ => rfl, fun h => absurd hfar h⟩, ?_⟩
      exact ⟨g7.os.trans L06.os, g7.tape.trans L06.tape, g7.output.trans L06.output, Nat.le_trans L06.size g7.size, fun i hi hne => (g7.block i (by have := L06.size; omega) hne).trans (L06.block i hi)⟩
    clear hmB
    go_wp2_with fail
    exact bodyPost_ret (v := .tuple #[]) (by simp [results, Tryz.results92, go_sem]) rfl ⟨rfl, HE.out _ rfl⟩
  · have hdec : decide (most < T) = false := by simp [hfar]
    have HD6 := hidP (HD.out w6 HL6.out)
    go_wp2_with fail
    refine HD6.out.mono ?_
    rintro e w7 ⟨rfl, ⟨es, h1, h2, h3⟩, g7⟩
    have HE : Hid (Left0 B gs most T (goneB s q most) w w7) := by
      have L06 := chain HL0.out.1 HL6.out
      refine ⟨⟨es, h1, h2, fun h => absurd h (by omega), fun _ => h3⟩, ?_⟩
      exact ⟨g7.os.trans L06.os, g7.tape.trans L06.tape, g7.output.trans L06.output, Nat.le_trans L06.size g7.size, fun i hi hne => (g7.block i (by have := L06.size; omega) hne).trans (L06.block i hi)⟩
    clear h1 h2 h3 g7
    go_wp2_with fail
    exact bodyPost_end (v := .tuple #[]) (by simp [results, Tryz.results92, go_sem]) rfl ⟨rfl, HE.out⟩

end Go.Proofs.YtodielfilhodeaaGreat
