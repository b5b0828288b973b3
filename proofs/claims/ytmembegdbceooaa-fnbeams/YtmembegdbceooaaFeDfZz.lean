/-
  The laws' draws of chapter 14: which mark a walk begins at.
-/
import Derived.Test.YtmembegdbceooaaFeLkZz
import Derived.Test.YtmembegdbceooaaMAnyZz
namespace Go.Proofs.Ytmembegdbceooaa
open Go Go.RowKit

set_option maxRecDepth 100000 in
set_option maxHeartbeats 2000000 in
theorem cDrawFrom (q : Nat) (ao : Option Addr) (n cap : Nat) (am al : Option Addr) (cm cl ll : Nat) (ms : List Mk) (w : World) (hc : Cur w q ao n cap) (hv : CodeV w ao n) (hn : n ≤ 4096) (h60 : ms.length ≤ 60)
    (hm : ms = [] ∨ ∃ b off, am = some ⟨b, off, none⟩ ∧ b < w.heap.size ∧ b ≠ q ∧ MSeg w b off ms) :
    Calls Try.prog 35 #[.pointer (some ⟨q, 0, none⟩), .agg #[.slice am ms.length cm, .slice al ll cl]] w fun e w' => (∃ x : Int, e = .returned (.int .i64 x)) ∧ Cur w' q ao n cap ∧ w.grownBy w' (some q) := by
  have hq := hc.lt
  obtain ⟨W, hW⟩ : ∃ W, w.alloc (.cells #[.slice am ms.length cm, .slice al ll cl] 27) = W := ⟨_, rfl⟩
  have ga : w.grownBy W (some q) := by rw [← hW]; exact World.grownBy_alloc w _ (some q)
  have cW : Cur W q ao n cap := by rw [← hW]; exact hc.alloc _
  have vW : CodeV W ao n := hv.grown hc ga
  have k0 : W.cell? ⟨w.heap.size, 0, none⟩ = some (.slice am ms.length cm) := by rw [← hW]; simp
  have hsz : W.heap.size = w.heap.size + 1 := by rw [← hW]; simp
  rcases Nat.eq_zero_or_pos ms.length with h0 | h0
  · rw [h0] at k0 hW ⊢
    have HG := hidP ga
    have HV := hidP vW
    clear ga vW hv hm
    go_enter Try.func35, Try.ntmps35
    go_wp2_with fail
    refine (cBelow q ao n cap 9 _ cW HV.out hn (by omega) (by omega)).mono ?_
    rintro e w2 ⟨⟨y, y0, y1, rfl⟩, c2, g2⟩
    have HG2 := hidP (grown_trans HG.out g2)
    clear g2
    go_wp2_with fail
    go_ret
    exact ⟨⟨_, rfl⟩, c2, HG2.out⟩
  · obtain ⟨b, off, rfl, hbl, hbq, hseg⟩ : ∃ b off, am = some ⟨b, off, none⟩ ∧ b < w.heap.size ∧ b ≠ q ∧ MSeg w b off ms := by
      rcases hm with h | h
      · rw [h] at h0; simp at h0
      · exact h
    have HC : Hid (∀ W' : World, W.grownBy W' (some q) → W'.cell? ⟨w.heap.size, 0, none⟩ = some (.slice (some ⟨b, off, none⟩) ms.length cm) ∧ ∀ i, i < ms.length → W'.cell? ⟨b, off + i * 2, none⟩ = some (.int .i64 (mid ms i))) := fun W' g =>
      ⟨g.cell k0 (by simp; omega), fun i hi => g.cell (ga.cell (hseg i hi).1 (by simp; omega)) (by simp; omega)⟩
    have HG := hidP ga
    have HV := hidP vW
    have hp : (ms.length : Int) > 0 := by omega
    clear ga vW hv hm hseg
    go_enter Try.func35, Try.ntmps35
    go_wp2_with fail
    refine (cOnce q ao n cap 10 _ cW HV.out hn (by omega) (by omega)).mono ?_
    rintro e w1 ⟨⟨x, rfl⟩, c1, g1⟩
    have HV1 := hidP (HV.out.grown cW g1)
    have HG1 := hidP g1
    obtain ⟨e0, e1⟩ := HC.out w1 g1
    have HE := hidP e1
    clear g1 e1 hW k0
    cases x with
    | true =>
      go_wp2_with fail
      refine (cBelow q ao n cap 9 _ c1 HV1.out hn (by omega) (by omega)).mono ?_
      rintro e w2 ⟨⟨y, y0, y1, rfl⟩, c2, g2⟩
      have HG2 := hidP (grown_trans HG.out (grown_trans HG1.out g2))
      clear g2
      go_wp2_with fail
      go_ret
      exact ⟨⟨_, rfl⟩, c2, HG2.out⟩
    | false =>
      have HBL : Hid (∀ m : Nat, Calls Try.prog 69 #[.pointer (some ⟨q, 0, none⟩), .int .i64 (ms.length : Int)] (w1.drewN m) fun e w' => ∃ x : Nat, e = .returned (.int .i64 (x : Int)) ∧ x < ms.length ∧ w'.cell? ⟨w.heap.size, 0, none⟩ = some (.slice (some ⟨b, off, none⟩) ms.length cm) ∧ w'.cell? ⟨b, off + x * 2, none⟩ = some (.int .i64 (mid ms x)) ∧ Cur w' q ao n cap ∧ w.grownBy w' (some q)) := fun m => by
        have gd : w1.grownBy (w1.drewN m) (some q) := ⟨rfl, rfl, rfl, Nat.le_refl _, fun _ _ _ => rfl⟩
        refine (cBelow q ao n cap (ms.length : Int) (w1.drewN m) c1 (HV1.out.grown c1 gd) hn (by omega) (by omega)).mono ?_
        rintro e w2 ⟨⟨y, y0, y1, rfl⟩, c2, g2⟩
        obtain ⟨yn, rfl⟩ := Int.eq_ofNat_of_zero_le y0
        have hy : yn < ms.length := by omega
        have g3 := grown_trans HG1.out (grown_trans gd g2)
        obtain ⟨z0, z1⟩ := HC.out w2 g3
        exact ⟨yn, rfl, hy, z0, z1 yn hy, c2, grown_trans HG.out g3⟩
      go_wp2_with fail
      have he1 : ∀ (j : Nat), (j : Int) * 2 = ((j * 2 : Nat) : Int) := fun j => by omega
      go_region_with (go_at_call 69; refine (HBL.out 1).mono ?_; rintro e w2 ⟨yn, rfl, hy, z0, z1, c2, g2⟩; have hy2 : (yn : Int) < (ms.length : Int) := (by omega); have HG2 := hidP g2; clear g2)
      all_goals (
        simp only [Exit.then]
        go_wp2_with fail
        go_ret
        exact ⟨⟨_, rfl⟩, c2, HG2.out⟩)

end Go.Proofs.Ytmembegdbceooaa
