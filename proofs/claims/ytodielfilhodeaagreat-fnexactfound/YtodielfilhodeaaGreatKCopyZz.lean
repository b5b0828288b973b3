/-
  The laws' own toKnotS: new knots that read as what was given.
  The laws' own markKnotS over a copy: knots are written over, in their own blocks alone.
-/
import Derived.Test.YtodielfilhodeaaGreatKArgZz
import Derived.Test.YtodielfilhodeaaGreatKTopZz
import Derived.Test.YtodielfilhodeaaGreatKCellsZz
import Derived.Test.YtodielfilhodeaaGreatMMarkZz
namespace Go.Proofs.YtodielfilhodeaaGreat
open Go Go.RowKit

/-- A knot of the call's own: its place is a row of its own, behind the knots' row. -/
def KOwnAt (w : World) (b off : Nat) (k : Kn) : Prop :=
  w.cell? ⟨b, off, none⟩ = some (.int .i64 k.1.1) ∧ (∃ g, b < g ∧ w.cell? ⟨b, off + 1, none⟩ = some (.slice (some ⟨g, 0, none⟩) k.1.2.length k.1.2.length) ∧ Own w g k.1.2) ∧ w.cell? ⟨b, off + 2, none⟩ = some (.int .i64 k.2.1) ∧ w.cell? ⟨b, off + 3, none⟩ = some (.int .i64 k.2.2.1) ∧ w.cell? ⟨b, off + 4, none⟩ = some (.int .i64 k.2.2.2)
/-- A row of n knots of the call's own, the first k of them filled in. -/
def KPart (w : World) (b k n : Nat) (ks : List Kn) : Prop := b < w.heap.size ∧ (∀ i, i < k → KOwnAt w b (i * 5) (knth ks i)) ∧ (∀ j, k * 5 ≤ j → j < n * 5 → ∃ v, w.cell? ⟨b, j, none⟩ = some v) ∧ ∀ j, w.frozen? ⟨b, j, none⟩ = false
theorem KOwnAt.below {w w' : World} {b off : Nat} {k : Kn} (h : KOwnAt w b off k) (hb : b < w.heap.size) (hw : Below w.heap.size w w') : KOwnAt w' b off k := by
  obtain ⟨h0, ⟨g, hg, h1, ho⟩, h2, h3, h4⟩ := h
  exact ⟨(hw.cell (p := ⟨b, off, none⟩) hb).trans h0, ⟨g, hg, (hw.cell (p := ⟨b, off + 1, none⟩) hb).trans h1, ho.below ho.lt hw⟩, (hw.cell (p := ⟨b, off + 2, none⟩) hb).trans h2, (hw.cell (p := ⟨b, off + 3, none⟩) hb).trans h3, (hw.cell (p := ⟨b, off + 4, none⟩) hb).trans h4⟩
theorem KPart.below {w w' : World} {b k n : Nat} {ks : List Kn} (h : KPart w b k n ks) (hw : Below w.heap.size w w') : KPart w' b k n ks :=
  ⟨Nat.lt_of_lt_of_le h.1 hw.size, fun i hi => (h.2.1 i hi).below h.1 hw, fun j h1 h2 => by
    obtain ⟨v, hv⟩ := h.2.2.1 j h1 h2
    exact ⟨v, (hw.cell (p := ⟨b, j, none⟩) h.1).trans hv⟩, fun j => (hw.frozen (p := ⟨b, j, none⟩) h.1).trans (h.2.2.2 j)⟩
theorem KPart.view {w : World} {b : Nat} {ks : List Kn} (h : KPart w b ks.length ks.length ks) : KView w (some ⟨b, 0, none⟩) ks :=
  Or.inr ⟨b, 0, rfl, h.1, fun i hi => by
    obtain ⟨c0, ⟨g, _, c1, o⟩, c2, c3, c4⟩ := h.2.1 i hi
    rw [Nat.zero_add]
    exact ⟨c0, ⟨_, _, c1, o.view⟩, c2, c3, c4⟩⟩
theorem KPart.start (w : World) (z : Array Value) (t : TypeId) (n : Nat) (ks : List Kn) : KPart (w.alloc (.cells (madeCells z (n * 5)) t)) w.heap.size 0 n ks :=
  ⟨by simp, fun i hi => by omega, fun j _ h2 => by
    rw [World.cell?_alloc_at _ _ _ _ rfl]
    exact ⟨_, Array.getElem?_eq_getElem (by rw [size_madeCells]; exact h2)⟩, fun j => World.frozen?_alloc_at _ _ _ _ rfl⟩
theorem KPart.step {w : World} {b k n g : Nat} {ks : List Kn} (h : KPart w b k n ks) (hk : k < n) (hg : b < g) (ho : Own w g (knth ks k).1.2) :
    KPart (((((w.setCell ⟨b, k * 5, none⟩ (.int .i64 (knth ks k).1.1)).setCell ⟨b, k * 5 + 1, none⟩ (.slice (some ⟨g, 0, none⟩) (knth ks k).1.2.length (knth ks k).1.2.length)).setCell ⟨b, k * 5 + 2, none⟩ (.int .i64 (knth ks k).2.1)).setCell ⟨b, k * 5 + 3, none⟩ (.int .i64 (knth ks k).2.2.1)).setCell ⟨b, k * 5 + 4, none⟩ (.int .i64 (knth ks k).2.2.2)) b (k + 1) n ks := by
  obtain ⟨hb, hall, hrest, hfr⟩ := h
  obtain ⟨v0, e0⟩ := hrest (k * 5) (Nat.le_refl _) (by omega)
  obtain ⟨v1, e1⟩ := hrest (k * 5 + 1) (by omega) (by omega)
  obtain ⟨v2, e2⟩ := hrest (k * 5 + 2) (by omega) (by omega)
  obtain ⟨v3, e3⟩ := hrest (k * 5 + 3) (by omega) (by omega)
  obtain ⟨v4, e4⟩ := hrest (k * 5 + 4) (by omega) (by omega)
  refine ⟨by simp; exact hb, fun i hi => ?_, fun j h1 h2 => ?_, fun j => by simp only [World.frozen?_setCell]; exact hfr j⟩
  · rcases Nat.lt_or_ge i k with h | h
    · obtain ⟨c0, ⟨g', hg', c1, o'⟩, c2, c3, c4⟩ := hall i h
      refine ⟨?_, ⟨g', hg', ?_, ((((o'.setOther (by simp; omega) _).setOther (by simp; omega) _).setOther (by simp; omega) _).setOther (by simp; omega) _).setOther (by simp; omega) _⟩, ?_, ?_, ?_⟩
      · rw [cell_setOther _ _ _ _ _ (by omega), cell_setOther _ _ _ _ _ (by omega), cell_setOther _ _ _ _ _ (by omega), cell_setOther _ _ _ _ _ (by omega), cell_setOther _ _ _ _ _ (by omega)]; exact c0
      · rw [cell_setOther _ _ _ _ _ (by omega), cell_setOther _ _ _ _ _ (by omega), cell_setOther _ _ _ _ _ (by omega), cell_setOther _ _ _ _ _ (by omega), cell_setOther _ _ _ _ _ (by omega)]; exact c1
      · rw [cell_setOther _ _ _ _ _ (by omega), cell_setOther _ _ _ _ _ (by omega), cell_setOther _ _ _ _ _ (by omega), cell_setOther _ _ _ _ _ (by omega), cell_setOther _ _ _ _ _ (by omega)]; exact c2
      · rw [cell_setOther _ _ _ _ _ (by omega), cell_setOther _ _ _ _ _ (by omega), cell_setOther _ _ _ _ _ (by omega), cell_setOther _ _ _ _ _ (by omega), cell_setOther _ _ _ _ _ (by omega)]; exact c3
      · rw [cell_setOther _ _ _ _ _ (by omega), cell_setOther _ _ _ _ _ (by omega), cell_setOther _ _ _ _ _ (by omega), cell_setOther _ _ _ _ _ (by omega), cell_setOther _ _ _ _ _ (by omega)]; exact c4
    · obtain rfl : i = k := by omega
      refine ⟨?_, ⟨g, hg, ?_, ((((ho.setOther (by simp; omega) _).setOther (by simp; omega) _).setOther (by simp; omega) _).setOther (by simp; omega) _).setOther (by simp; omega) _⟩, ?_, ?_, ?_⟩
      · rw [cell_setOther _ _ _ _ _ (by omega), cell_setOther _ _ _ _ _ (by omega), cell_setOther _ _ _ _ _ (by omega), cell_setOther _ _ _ _ _ (by omega)]
        exact World.cell?_setCell_same _ _ _ e0
      · rw [cell_setOther _ _ _ _ _ (by omega), cell_setOther _ _ _ _ _ (by omega), cell_setOther _ _ _ _ _ (by omega)]
        exact World.cell?_setCell_same _ _ _ (u := v1) (by rw [cell_setOther _ _ _ _ _ (by omega)]; exact e1)
      · rw [cell_setOther _ _ _ _ _ (by omega), cell_setOther _ _ _ _ _ (by omega)]
        exact World.cell?_setCell_same _ _ _ (u := v2) (by rw [cell_setOther _ _ _ _ _ (by omega), cell_setOther _ _ _ _ _ (by omega)]; exact e2)
      · rw [cell_setOther _ _ _ _ _ (by omega)]
        exact World.cell?_setCell_same _ _ _ (u := v3) (by rw [cell_setOther _ _ _ _ _ (by omega), cell_setOther _ _ _ _ _ (by omega), cell_setOther _ _ _ _ _ (by omega)]; exact e3)
      · exact World.cell?_setCell_same _ _ _ (u := v4) (by rw [cell_setOther _ _ _ _ _ (by omega), cell_setOther _ _ _ _ _ (by omega), cell_setOther _ _ _ _ _ (by omega), cell_setOther _ _ _ _ _ (by omega)]; exact e4)
  · rw [cell_setOther _ _ _ _ _ (by omega), cell_setOther _ _ _ _ _ (by omega), cell_setOther _ _ _ _ _ (by omega), cell_setOther _ _ _ _ _ (by omega), cell_setOther _ _ _ _ _ (by omega)]
    exact hrest j (by omega) h2

set_option maxRecDepth 100000 in
set_option maxHeartbeats 1000000 in
theorem toK (k : Kn) (ao : Option Addr) (cap : Nat) (w : World) (hv : View w ao k.1.2) (hn : k.1.2.length ≤ 1048576) :
    Calls Tryz.prog 103 #[.agg #[.int .i64 k.1.1, .slice ao k.1.2.length cap, .int .i64 k.2.1, .int .i64 k.2.2.1, .int .i64 k.2.2.2]] w fun e w' => ∃ b, e = .returned (.agg #[.int .i64 k.1.1, .slice (some ⟨b, 0, none⟩) k.1.2.length k.1.2.length, .int .i64 k.2.1, .int .i64 k.2.2.1, .int .i64 k.2.2.2]) ∧ Own w' b k.1.2 ∧ w.heap.size ≤ b ∧ Below w.heap.size w w' := by
  obtain ⟨W, hW⟩ : ∃ W, W = ((w.alloc (.cells #[.int .i64 k.1.1, .slice ao k.1.2.length cap, .int .i64 k.2.1, .int .i64 k.2.2.1, .int .i64 k.2.2.2] 129)).alloc (.cells #[.int .i64 0, .slice none 0 0, .int .i64 0, .int .i64 0, .int .i64 0] 42)).alloc (.cells #[.int .i64 0, .slice none 0 0, .int .i64 0, .int .i64 0, .int .i64 0] 42) := ⟨_, rfl⟩
  have hL : Below w.heap.size w W := by rw [hW]; exact (((Below.refl _ _).alloc (Nat.le_refl _) _).alloc (by simp) _).alloc (by simp; omega) _
  have hsz : W.heap.size = w.heap.size + 3 := by rw [hW]; simp
  have F0 : Five W w.heap.size (.int .i64 k.1.1) (.slice ao k.1.2.length cap) (.int .i64 k.2.1) (.int .i64 k.2.2.1) (.int .i64 k.2.2.2) 129 := by rw [hW]; exact (((Five.new w _ _ _ _ _ _).below (alloc_below _ _)).below (alloc_below _ _))
  have F1 : Five W (w.heap.size + 1) (.int .i64 0) (.slice none 0 0) (.int .i64 0) (.int .i64 0) (.int .i64 0) 42 := by
    rw [hW]
    have := Five.new (w.alloc (.cells #[.int .i64 k.1.1, .slice ao k.1.2.length cap, .int .i64 k.2.1, .int .i64 k.2.2.1, .int .i64 k.2.2.2] 129)) (.int .i64 0) (.slice none 0 0) (.int .i64 0) (.int .i64 0) (.int .i64 0) 42
    rw [World.size_alloc] at this
    exact this.below (alloc_below _ _)
  have F2 : Five W (w.heap.size + 1 + 1) (.int .i64 0) (.slice none 0 0) (.int .i64 0) (.int .i64 0) (.int .i64 0) 42 := by
    rw [hW]
    have := Five.new ((w.alloc (.cells #[.int .i64 k.1.1, .slice ao k.1.2.length cap, .int .i64 k.2.1, .int .i64 k.2.2.1, .int .i64 k.2.2.2] 129)).alloc (.cells #[.int .i64 0, .slice none 0 0, .int .i64 0, .int .i64 0, .int .i64 0] 42)) (.int .i64 0) (.slice none 0 0) (.int .i64 0) (.int .i64 0) (.int .i64 0) 42
    rw [World.size_alloc, World.size_alloc] at this
    exact this
  have HC := hidP (toM k.1 ao cap W (hv.next hL) hn)
  have HF := hidP (And.intro F0 (And.intro F1 F2))
  have HL := hidP hL
  obtain ⟨x0, x1, _, _, _⟩ := F0.cells
  clear hv hL F0 F1 F2
  go_enter Tryz.func103, Tryz.ntmps103
  go_wp2_with fail
  rw [← hW]
  clear hW
  refine HC.out.mono ?_
  rintro e w1 ⟨g, rfl, o1, hg, L1⟩
  obtain ⟨F0, F1, F2⟩ := HF.out
  obtain ⟨a0, a1, a2, a3, a4⟩ := (F0.below L1).cells
  obtain ⟨b0, b1, b2, b3, b4⟩ := (F1.below L1).cells
  obtain ⟨c0, c1, c2, c3, c4⟩ := (F2.below L1).cells
  have f1 := (F1.below L1).frozen
  have f2 := (F2.below L1).frozen
  have hz := L1.size
  have HO := hidP o1
  have HL1 := hidP (HL.out.trans (L1.mono (by omega)))
  clear F0 F1 F2 L1 o1 HF HL HC x0 x1
  go_wp2_with fail
  refine bodyPost_ret (v := .agg #[.int .i64 k.1.1, .slice (some ⟨g, 0, none⟩) k.1.2.length k.1.2.length, .int .i64 k.2.1, .int .i64 k.2.2.1, .int .i64 k.2.2.2]) (by simp [results, Tryz.results103, go_sem, b0, b1, b2, b3, b4]) rfl ?_
  exact ⟨g, rfl, ((((((((((HO.out.setOther (by simp; omega) _).setOther (by simp; omega) _).setOther (by simp; omega) _).setOther (by simp; omega) _).setOther (by simp; omega) _).setOther (by simp; omega) _).setOther (by simp; omega) _).setOther (by simp; omega) _).setOther (by simp; omega) _).setOther (by simp; omega) _), by omega, (set_below (set_below (set_below (set_below (set_below (set_below (set_below (set_below (set_below (set_below HL1.out (by omega) _) (by omega) _) (by omega) _) (by omega) _) (by omega) _) (by omega) _) (by omega) _) (by omega) _) (by omega) _) (by omega) _)⟩

set_option maxRecDepth 100000 in
set_option maxHeartbeats 1000000 in
theorem toKS_seg (b off cap : Nat) (ks : List Kn) (w : World) (hs : KSeg w b off ks) (hb : b < w.heap.size) (hsm : KSmall ks) :
    Calls Tryz.prog 41 #[.slice (some ⟨b, off, none⟩) ks.length cap] w fun e w' => e = .returned (.slice (some ⟨w.heap.size, 0, none⟩) ks.length ks.length) ∧ KPart w' w.heap.size ks.length ks.length ks ∧ Below w.heap.size w w' := by
  obtain ⟨hn, hat⟩ := hsm
  have hmk := run_make_rows (P := Tryz.prog) 26 42 (.agg #[.int .i64 0, .slice none 0 0, .int .i64 0, .int .i64 0, .int .i64 0]) 5 56 Tryz.underlying26 Tryz.info42 .i64 .i64 ks.length (by omega) (by omega)
  go_enter Tryz.func41, Tryz.ntmps41
  go_wp2
  clear hmk
  go_loopw [4] (fun i wr => ∃ k : Nat, k ≤ ks.length ∧ i = .int .i64 k ∧ KPart wr w.heap.size k ks.length ks ∧ Below w.heap.size w wr) (fun i _ => ks.length - (intOf i).toNat)
  case atStart => exact ⟨0, Nat.zero_le _, rfl, KPart.start w _ _ _ _, (Below.refl _ _).alloc (Nat.le_refl _) _⟩
  case round =>
    obtain ⟨k, hk, rfl, hp, L⟩ := hrel
    by_cases hlt : k < ks.length
    · obtain ⟨c0, ⟨ao, ca, c1, hv⟩, c2, c3, c4⟩ := (hs k hlt).below hb L
      have hz := L.size
      have HP := hidP hp
      have HL := hidP L
      have hp1 := hp.1
      have hak := hat k
      generalize hq : knth ks k = q at *
      have HQ := hidP hq
      clear hp L hq
      go_wp2_with fail
      refine (toK q ao ca _ hv hak).mono ?_
      rintro e w1 ⟨g, rfl, o1, hg, L1⟩
      have hp' := HP.out.below L1
      obtain ⟨v0, e0⟩ := hp'.2.2.1 (k * 5) (Nat.le_refl _) (by omega)
      obtain ⟨v1, e1⟩ := hp'.2.2.1 (k * 5 + 1) (by omega) (by omega)
      obtain ⟨v2, e2⟩ := hp'.2.2.1 (k * 5 + 2) (by omega) (by omega)
      obtain ⟨v3, e3⟩ := hp'.2.2.1 (k * 5 + 3) (by omega) (by omega)
      obtain ⟨v4, e4⟩ := hp'.2.2.1 (k * 5 + 4) (by omega) (by omega)
      have f := hp'.2.2.2
      have HS : Hid (KPart (((((w1.setCell ⟨w.heap.size, k * 5, none⟩ (.int .i64 q.1.1)).setCell ⟨w.heap.size, k * 5 + 1, none⟩ (.slice (some ⟨g, 0, none⟩) q.1.2.length q.1.2.length)).setCell ⟨w.heap.size, k * 5 + 2, none⟩ (.int .i64 q.2.1)).setCell ⟨w.heap.size, k * 5 + 3, none⟩ (.int .i64 q.2.2.1)).setCell ⟨w.heap.size, k * 5 + 4, none⟩ (.int .i64 q.2.2.2)) w.heap.size (k + 1) ks.length ks) := by
        have := hp'.step hlt (g := g) (by omega) (by rw [HQ.out]; exact o1)
        rw [HQ.out] at this
        exact this
      have HL2 := hidP (HL.out.trans (L1.mono hz))
      clear hp' L1 o1 HP HL c0 c1 c2 c3 c4 hv
      go_wp2_with fail
      go_roundw
      case rel => exact ⟨k + 1, by omega, by go_num, HS.out, set_below (set_below (set_below (set_below (set_below HL2.out (Nat.le_refl _) _) (Nat.le_refl _) _) (Nat.le_refl _) _) (Nat.le_refl _) _) (Nat.le_refl _) _⟩
      case measure => simp [intOf]; omega
    · go_wp2
      go_ret
      obtain rfl : k = ks.length := by omega
      exact ⟨rfl, hp, L⟩

set_option maxHeartbeats 400000 in
theorem toKS_nil (ao : Option Addr) (cap : Nat) (w : World) :
    Calls Tryz.prog 41 #[.slice ao 0 cap] w fun e w' => e = .returned (.slice (some ⟨w.heap.size, 0, none⟩) 0 0) ∧ w' = w.alloc (.cells #[] 42) := by
  have hmk : ∀ w, (Instr.makeSlice 26 (.int .i64 0) (.int .i64 0)).run Tryz.prog w = .ok (.slice (some ⟨w.heap.size, 0, none⟩) 0 0) (w.alloc (.cells #[] 42)) := fun _ => by kernel_rfl
  go_enter Tryz.func41, Tryz.ntmps41
  go_wp2
  clear hmk
  refine wp_loop_rounds 1 ?_
  rw [rounds_succ]
  go_wp2
  go_ret
  exact ⟨rfl, rfl⟩

/-- toKnotS: new knots that read as what was given. -/
theorem toKS (ao : Option Addr) (cap : Nat) (ks : List Kn) (w : World) (hv : KView w ao ks) (hsm : KSmall ks) :
    Calls Tryz.prog 41 #[.slice ao ks.length cap] w fun e w' => ∃ b, e = .returned (.slice (some ⟨b, 0, none⟩) ks.length ks.length) ∧ KPart w' b ks.length ks.length ks ∧ w.heap.size ≤ b ∧ Below w.heap.size w w' := by
  rcases hv with rfl | ⟨b, off, rfl, hb, hs⟩
  · refine (toKS_nil ao cap w).mono ?_
    rintro e w' ⟨rfl, rfl⟩
    exact ⟨_, rfl, ⟨by simp, fun i hi => by simp at hi, fun j _ h2 => by simp at h2, fun j => World.frozen?_alloc_at _ _ _ _ rfl⟩, Nat.le_refl _, (Below.refl _ _).alloc (Nat.le_refl _) _⟩
  · refine (toKS_seg b off cap ks w hs hb hsm).mono ?_
    rintro e w' ⟨rfl, hp, L⟩
    exact ⟨_, rfl, hp, Nat.le_refl _, L⟩

end Go.Proofs.YtodielfilhodeaaGreat
namespace Go.Proofs.YtodielfilhodeaaGreat
open Go Go.RowKit

/-- Knots of the call's own, of whatever numbers: what writing over them needs. -/
def KOver (w : World) (b hi : Nat) (ks : List Kn) : Prop := b < w.heap.size ∧ b < hi ∧ (∀ j, w.frozen? ⟨b, j, none⟩ = false) ∧
  ∀ j, j < ks.length → (∀ t, t < 5 → t ≠ 1 → ∃ v, w.cell? ⟨b, j * 5 + t, none⟩ = some v) ∧ ∃ g xs, b < g ∧ g < hi ∧ w.cell? ⟨b, j * 5 + 1, none⟩ = some (.slice (some ⟨g, 0, none⟩) (knth ks j).1.2.length (knth ks j).1.2.length) ∧ xs.length = (knth ks j).1.2.length ∧ Own w g xs
theorem KPart.over {w : World} {b : Nat} {ks : List Kn} (h : KPart w b ks.length ks.length ks) : KOver w b w.heap.size ks :=
  ⟨h.1, h.1, h.2.2.2, fun j hj => by
    obtain ⟨c0, ⟨g, hg, c1, o⟩, c2, c3, c4⟩ := h.2.1 j hj
    refine ⟨fun t ht h1 => ?_, g, (knth ks j).1.2, hg, o.lt, c1, rfl, o⟩
    have h5 : t = 0 ∨ t = 2 ∨ t = 3 ∨ t = 4 := by omega
    rcases h5 with rfl | rfl | rfl | rfl
    · exact ⟨_, c0⟩
    · exact ⟨_, c2⟩
    · exact ⟨_, c3⟩
    · exact ⟨_, c4⟩⟩
theorem KOver.set {w : World} {b hi : Nat} {ks : List Kn} (h : KOver w b hi ks) (k t : Nat) (ht : t < 5) (ht1 : t ≠ 1) (v : Value) : KOver (w.setCell ⟨b, k * 5 + t, none⟩ v) b hi ks := by
  obtain ⟨h1, h2, h3, h4⟩ := h
  refine ⟨by rw [setCell_size]; exact h1, h2, fun j => by rw [World.frozen?_setCell]; exact h3 j, fun j hj => ?_⟩
  obtain ⟨hc, g, xs, hg, hg2, c1, hl, o⟩ := h4 j hj
  refine ⟨fun s hs hs1 => ?_, g, xs, hg, hg2, by rw [cell_setOther _ _ _ _ _ (by omega)]; exact c1, hl, o.setOther (by simp; omega) _⟩
  obtain ⟨u, c0⟩ := hc s hs hs1
  by_cases e : k * 5 + t = j * 5 + s
  · rw [e]; exact ⟨_, World.cell?_setCell_same _ _ _ c0⟩
  · exact ⟨u, by rw [cell_setOther _ _ _ _ _ (by omega)]; exact c0⟩
theorem KOver.marked {w w' : World} {b hi g : Nat} {ks : List Kn} {xs ys : List Int} (h : KOver w b hi ks) (hb : b < g) (ho : Own w g xs) (hg : w.grownBy w' (some g)) (ho' : Own w' g ys) (hl : ys.length = xs.length) : KOver w' b hi ks := by
  obtain ⟨h1, h2, h3, h4⟩ := h
  have hne : some b ≠ some g := fun e => by injection e with e; omega
  refine ⟨Nat.lt_of_lt_of_le h1 hg.size, h2, fun j => (frozen_grown h1 hg hne).trans (h3 j), fun j hj => ?_⟩
  obtain ⟨hc, g2, zs, hg1, hg2, c1, hl2, o⟩ := h4 j hj
  refine ⟨fun t ht ht1 => by obtain ⟨u, c0⟩ := hc t ht ht1; exact ⟨u, (cell_grown h1 hg hne).trans c0⟩, g2, ?_⟩
  by_cases e : g2 = g
  · subst e
    have hx : xs.length = zs.length := by
      unfold Own at ho o
      rw [ho] at o
      injection o with o
      injection o with o
      have := congrArg Array.size o
      simpa [rowC] using this
    exact ⟨ys, hg1, hg2, (cell_grown h1 hg hne).trans c1, by omega, ho'⟩
  · exact ⟨zs, hg1, hg2, (cell_grown h1 hg hne).trans c1, hl2, o.grown hg e⟩
theorem KOver.below {w w' : World} {b hi : Nat} {ks : List Kn} (h : KOver w b hi ks) (hh : hi ≤ w.heap.size) (hb : Below w.heap.size w w') : KOver w' b hi ks := by
  obtain ⟨h1, h2, h3, h4⟩ := h
  have hg : w.grownBy w' none := ⟨hb.os, hb.tape, hb.output, hb.size, fun i hi _ => hb.block i hi⟩
  refine ⟨Nat.lt_of_lt_of_le h1 hb.size, h2, fun j => (frozen_grown h1 hg (by simp)).trans (h3 j), fun j hj => ?_⟩
  obtain ⟨hc, g, xs, hg1, hg2, c1, hl, o⟩ := h4 j hj
  exact ⟨fun t ht ht1 => by obtain ⟨u, c0⟩ := hc t ht ht1; exact ⟨u, (hb.cell (p := ⟨b, j * 5 + t, none⟩) h1).trans c0⟩, g, xs, hg1, hg2, (hb.cell (p := ⟨b, j * 5 + 1, none⟩) h1).trans c1, hl, o.below (Nat.lt_of_lt_of_le hg2 hh) hb⟩

set_option maxRecDepth 100000 in
set_option maxHeartbeats 2000000 in
theorem markKO (b hi cap : Nat) (k0 : Int) (ks : List Kn) (w : World) (hm : KOver w b hi ks) (hsm : KSmall ks) (h0 : 1 ≤ k0) (h1 : k0 ≤ 10000000) :
    Calls Tryz.prog 46 #[.slice (some ⟨b, 0, none⟩) ks.length cap, .int .i64 k0] w fun e w' => (∃ k1 : Int, 1 ≤ k1 ∧ k1 ≤ 2305843009213693952 ∧ e = .returned (.int .i64 k1)) ∧ GIn b hi w w' := by
  obtain ⟨hn, hat⟩ := hsm
  go_enter Tryz.func46, Tryz.ntmps46
  go_wp2
  go_loopw [1, 5] (fun kk i wr => ∃ (k : Nat) (k1 : Int), k ≤ ks.length ∧ i = .int .i64 k ∧ kk = .int .i64 k1 ∧ 1 ≤ k1 ∧ k1 ≤ 10000000 + 1048580 * (k : Int) ∧ KOver wr b hi ks ∧ GIn b hi w wr) (fun _ i _ => ks.length - (intOf i).toNat)
  case atStart => exact ⟨0, k0, Nat.zero_le _, rfl, rfl, h0, by omega, hm, GIn.refl _ _ _⟩
  case round =>
    obtain ⟨k, k1, hk, rfl, rfl, hk0, hk1, ho, hg⟩ := hrel
    by_cases hlt : k < ks.length
    · have ho2 := ho.set k 0 (by omega) (by omega) (.int .i64 k1)
      obtain ⟨hcc, -⟩ := ho.2.2.2 k hlt
      obtain ⟨v, c0⟩ := hcc 0 (by omega) (by omega)
      have f0 := ho.2.2.1 (k * 5)
      obtain ⟨-, g, xs, hbg, hgh, c1, hl, hown⟩ := ho2.2.2.2 k hlt
      have hbh := ho.2.1
      simp only [Nat.add_zero] at c0 ho2 c1 hown
      have HG := hidP ((hg.grown (grown_setCell wr b (k * 5) (.int .i64 k1)) (Nat.le_refl _) ho.2.1))
      have HO := hidP ho2
      have HM := hidP (mark_big g (k1 + 1) xs _ hown (by rw [hl]; exact hat k) (by omega) (by omega))
      have HL := hidP hl
      have HOW := hidP hown
      rw [hl] at HM
      have hatk := hat k
      have hi0 : (0 : Int) ≤ (k : Int) := Int.natCast_nonneg _
      have hi1 : (k : Int) < (ks.length : Int) := by omega
      clear ho ho2 hg hown hl hcc
      generalize (knth ks k).1.2.length = A at *
      go_wp2_with fail
      refine HM.out.mono ?_
      rintro e w1 ⟨rfl, ho1, hg1⟩
      have O1 := HO.out.marked hbg HOW.out hg1 ho1 (by rw [tabL_length]; exact HL.out.symm)
      have G1 := HG.out.grown hg1 (by omega) hgh
      clear ho1 hg1 HO HG HM HOW c0 c1 f0
      obtain ⟨v2, d2⟩ := (O1.2.2.2 k hlt).1 2 (by omega) (by omega)
      have f2 := O1.2.2.1 (k * 5 + 2)
      have O2 := O1.set k 2 (by omega) (by omega) (.int .i64 (k1 + 1 + (A : Int)))
      have G2 := G1.grown (grown_setCell w1 b (k * 5 + 2) (.int .i64 (k1 + 1 + (A : Int)))) (Nat.le_refl _) hbh
      obtain ⟨v3, d3⟩ := (O2.2.2.2 k hlt).1 3 (by omega) (by omega)
      have f3 := O2.2.2.1 (k * 5 + 3)
      have O3 := O2.set k 3 (by omega) (by omega) (.int .i64 (k1 + 1 + (A : Int) + 1))
      have G3 := G2.grown (grown_setCell _ b (k * 5 + 3) (.int .i64 (k1 + 1 + (A : Int) + 1))) (Nat.le_refl _) hbh
      obtain ⟨v4, d4⟩ := (O3.2.2.2 k hlt).1 4 (by omega) (by omega)
      have f4 := O3.2.2.1 (k * 5 + 4)
      have O4 := O3.set k 4 (by omega) (by omega) (.int .i64 (k1 + 1 + (A : Int) + 1 + 1))
      have G4 := G3.grown (grown_setCell _ b (k * 5 + 4) (.int .i64 (k1 + 1 + (A : Int) + 1 + 1))) (Nat.le_refl _) hbh
      have HE := hidP (And.intro O4 G4)
      clear O1 O2 O3 O4 G1 G2 G3 G4
      go_wp2_with fail
      go_roundw
      case rel => exact ⟨k + 1, k1 + 1 + (A : Int) + 1 + 1 + 1, by omega, by go_num, rfl, by omega, by omega, HE.out.1, HE.out.2⟩
      case measure => simp [intOf]; omega
    · go_wp2
      go_ret
      exact ⟨⟨k1, hk0, by omega, rfl⟩, hg⟩

end Go.Proofs.YtodielfilhodeaaGreat
