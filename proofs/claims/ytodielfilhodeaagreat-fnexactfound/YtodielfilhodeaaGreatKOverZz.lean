/-
  The laws' own markKnotS over a copy: knots are written over, in their own blocks alone.
-/
import Derived.Test.YtodielfilhodeaaGreatKCopyZz
import Derived.Test.YtodielfilhodeaaGreatMMarkZz
namespace Go.Proofs.YtodielfilhodeaaGreat
open Go Go.RowKit

/-- Knots of the call's own, of whatever numbers: what writing over them needs. -/
def KOver (w : World) (b hi : Nat) (ks : List Kn) : Prop := b < w.heap.size ∧ b < hi ∧ (∀ j, w.frozen? ⟨b, j, none⟩ = false) ∧
  ∀ j, j < ks.length → (∀ t, t < 5 → t ≠ 1 → ∃ v, w.cell? ⟨b, j * 5 + t, none⟩ = some v) ∧ ∃ g xs, b < g ∧ g < hi ∧ w.cell? ⟨b, j * 5 + 1, none⟩ = some (.slice (some ⟨g, 0, none⟩) (knth ks j).1.2.length (knth ks j).1.2.length) ∧ xs.length = (knth ks j).1.2.length ∧ Own w g xs
theorem KPart.over {w : World} {b : Nat} {ks : List Kn} (h : KPart w b ks.length ks.length ks) : KOver w b w.heap.size ks :=
  ⟨h.1, h.1, h.2.2.2, fun j hj => by
    obtain ⟨c0, ⟨g, hg, c1, o⟩, c2, c3, c4⟩ := h.2.1 j hj
    refine ⟨fun t ht h1 => ?_, g, (knth ks j).1.2, hg, o.lt, c1, rfl, o⟩
    have h5 : t = 0 ∨ t = 2 ∨ t = 3 ∨ t = 4 := by omega
    rcases h5 with rfl | rfl | rfl | rfl
    · exact ⟨_, c0⟩
    · exact ⟨_, c2⟩
    · exact ⟨_, c3⟩
    · exact ⟨_, c4⟩⟩
theorem KOver.set {w : World} {b hi : Nat} {ks : List Kn} (h : KOver w b hi ks) (k t : Nat) (ht : t < 5) (ht1 : t ≠ 1) (v : Value) : KOver (w.setCell ⟨b, k * 5 + t, none⟩ v) b hi ks := by
  obtain ⟨h1, h2, h3, h4⟩ := h
  refine ⟨by rw [setCell_size]; exact h1, h2, fun j => by rw [World.frozen?_setCell]; exact h3 j, fun j hj => ?_⟩
  obtain ⟨hc, g, xs, hg, hg2, c1, hl, o⟩ := h4 j hj
  refine ⟨fun s hs hs1 => ?_, g, xs, hg, hg2, by rw [cell_setOther _ _ _ _ _ (by omega)]; exact c1, hl, o.setOther (by simp; omega) _⟩
  obtain ⟨u, c0⟩ := hc s hs hs1
  by_cases e : k * 5 + t = j * 5 + s
  · rw [e]; exact ⟨_, World.cell?_setCell_same _ _ _ c0⟩
  · exact ⟨u, by rw [cell_setOther _ _ _ _ _ (by omega)]; exact c0⟩
theorem KOver.marked {w w' : World} {b hi g : Nat} {ks : List Kn} {xs ys : List Int} (h : KOver w b hi ks) (hb : b < g) (ho : Own w g xs) (hg : w.grownBy w' (some g)) (ho' : Own w' g ys) (hl : ys.length = xs.length) : KOver w' b hi ks := by
  obtain ⟨h1, h2, h3, h4⟩ := h
  have hne : some b ≠ some g := fun e => by injection e with e; omega
  refine ⟨Nat.lt_of_lt_of_le h1 hg.size, h2, fun j => (frozen_grown h1 hg hne).trans (h3 j), fun j hj => ?_⟩
  obtain ⟨hc, g2, zs, hg1, hg2, c1, hl2, o⟩ := h4 j hj
  refine ⟨fun t ht ht1 => by obtain ⟨u, c0⟩ := hc t ht ht1; exact ⟨u, (cell_grown h1 hg hne).trans c0⟩, g2, ?_⟩
  by_cases e : g2 = g
  · subst e
    have hx : xs.length = zs.length := by
      unfold Own at ho o
      rw [ho] at o
      injection o with o
      injection o with o
      have := congrArg Array.size o
      simpa [rowC] using this
    exact ⟨ys, hg1, hg2, (cell_grown h1 hg hne).trans c1, by omega, ho'⟩
  · exact ⟨zs, hg1, hg2, (cell_grown h1 hg hne).trans c1, hl2, o.grown hg e⟩
theorem KOver.below {w w' : World} {b hi : Nat} {ks : List Kn} (h : KOver w b hi ks) (hh : hi ≤ w.heap.size) (hb : Below w.heap.size w w') : KOver w' b hi ks := by
  obtain ⟨h1, h2, h3, h4⟩ := h
  have hg : w.grownBy w' none := ⟨hb.os, hb.tape, hb.output, hb.size, fun i hi _ => hb.block i hi⟩
  refine ⟨Nat.lt_of_lt_of_le h1 hb.size, h2, fun j => (frozen_grown h1 hg (by simp)).trans (h3 j), fun j hj => ?_⟩
  obtain ⟨hc, g, xs, hg1, hg2, c1, hl, o⟩ := h4 j hj
  exact ⟨fun t ht ht1 => by obtain ⟨u, c0⟩ := hc t ht ht1; exact ⟨u, (hb.cell (p := ⟨b, j * 5 + t, none⟩) h1).trans c0⟩, g, xs, hg1, hg2, (hb.cell (p := ⟨b, j * 5 + 1, none⟩) h1).trans c1, hl, o.below (Nat.lt_of_lt_of_le hg2 hh) hb⟩

set_option maxRecDepth 100000 in
set_option maxHeartbeats 2000000 in
theorem markKO (b hi cap : Nat) (k0 : Int) (ks : List Kn) (w : World) (hm : KOver w b hi ks) (hsm : KSmall ks) (h0 : 1 ≤ k0) (h1 : k0 ≤ 10000000) :
    Calls Tryz.prog 46 #[.slice (some ⟨b, 0, none⟩) ks.length cap, .int .i64 k0] w fun e w' => (∃ k1 : Int, 1 ≤ k1 ∧ k1 ≤ 2305843009213693952 ∧ e = .returned (.int .i64 k1)) ∧ GIn b hi w w' := by
  obtain ⟨hn, hat⟩ := hsm
  go_enter Tryz.func46, Tryz.ntmps46
  go_wp2
  go_loopw [1, 5] (fun kk i wr => ∃ (k : Nat) (k1 : Int), k ≤ ks.length ∧ i = .int .i64 k ∧ kk = .int .i64 k1 ∧ 1 ≤ k1 ∧ k1 ≤ 10000000 + 1048580 * (k : Int) ∧ KOver wr b hi ks ∧ GIn b hi w wr) (fun _ i _ => ks.length - (intOf i).toNat)
  case atStart => exact ⟨0, k0, Nat.zero_le _, rfl, rfl, h0, by omega, hm, GIn.refl _ _ _⟩
  case round =>
    obtain ⟨k, k1, hk, rfl, rfl, hk0, hk1, ho, hg⟩ := hrel
    by_cases hlt : k < ks.length
    · have ho2 := ho.set k 0 (by omega) (by omega) (.int .i64 k1)
      obtain ⟨hcc, -⟩ := ho.2.2.2 k hlt
      obtain ⟨v, c0⟩ := hcc 0 (by omega) (by omega)
      have f0 := ho.2.2.1 (k * 5)
      obtain ⟨-, g, xs, hbg, hgh, c1, hl, hown⟩ := ho2.2.2.2 k hlt
      have hbh := ho.2.1
      simp only [Nat.add_zero] at c0 ho2 c1 hown
      have HG := hidP ((hg.grown (grown_setCell wr b (k * 5) (.int .i64 k1)) (Nat.le_refl _) ho.2.1))
      have HO := hidP ho2
      have HM := hidP (mark_big g (k1 + 1) xs _ hown (by rw [hl]; exact hat k) (by omega) (by omega))
      have HL := hidP hl
      have HOW := hidP hown
      rw [hl] at HM
      have hatk := hat k
      have hi0 : (0 : Int) ≤ (k : Int) := Int.natCast_nonneg _
      have hi1 : (k : Int) < (ks.length : Int) := by omega
      clear ho ho2 hg hown hl hcc
      generalize (knth ks k).1.2.length = A at *
      go_wp2_with fail
      refine HM.out.mono ?_
      rintro e w1 ⟨rfl, ho1, hg1⟩
      have O1 := HO.out.marked hbg HOW.out hg1 ho1 (by rw [tabL_length]; exact HL.out.symm)
      have G1 := HG.out.grown hg1 (by omega) hgh
      clear ho1 hg1 HO HG HM HOW c0 c1 f0
      obtain ⟨v2, d2⟩ := (O1.2.2.2 k hlt).1 2 (by omega) (by omega)
      have f2 := O1.2.2.1 (k * 5 + 2)
      have O2 := O1.set k 2 (by omega) (by omega) (.int .i64 (k1 + 1 + (A : Int)))
      have G2 := G1.grown (grown_setCell w1 b (k * 5 + 2) (.int .i64 (k1 + 1 + (A : Int)))) (Nat.le_refl _) hbh
      obtain ⟨v3, d3⟩ := (O2.2.2.2 k hlt).1 3 (by omega) (by omega)
      have f3 := O2.2.2.1 (k * 5 + 3)
      have O3 := O2.set k 3 (by omega) (by omega) (.int .i64 (k1 + 1 + (A : Int) + 1))
      have G3 := G2.grown (grown_setCell _ b (k * 5 + 3) (.int .i64 (k1 + 1 + (A : Int) + 1))) (Nat.le_refl _) hbh
      obtain ⟨v4, d4⟩ := (O3.2.2.2 k hlt).1 4 (by omega) (by omega)
      have f4 := O3.2.2.1 (k * 5 + 4)
      have O4 := O3.set k 4 (by omega) (by omega) (.int .i64 (k1 + 1 + (A : Int) + 1 + 1))
      have G4 := G3.grown (grown_setCell _ b (k * 5 + 4) (.int .i64 (k1 + 1 + (A : Int) + 1 + 1))) (Nat.le_refl _) hbh
      have HE := hidP (And.intro O4 G4)
      clear O1 O2 O3 O4 G1 G2 G3 G4
      go_wp2_with fail
      go_roundw
      case rel => exact ⟨k + 1, k1 + 1 + (A : Int) + 1 + 1 + 1, by omega, by go_num, rfl, by omega, by omega, HE.out.1, HE.out.2⟩
      case measure => simp [intOf]; omega
    · go_wp2
      go_ret
      exact ⟨⟨k1, hk0, by omega, rfl⟩, hg⟩

end Go.Proofs.YtodielfilhodeaaGreat
